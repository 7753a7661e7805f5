/- Pack 3 of what FnFansAndCubes needs: SOwn, MarkText, Cur4. -/
import Derived.Test.YtmfcknlpbliehabKFnFansAndCubes2
import Derived.Deep.QuietTactic
import Derived.BigQuiet
/- Words for memory: a slice of strings that the call owns. -/
namespace Go.Proofs.Ytmfcknlpbliehab
open Go.RowKit
theorem strInfo : (Try.prog.info? 9).map (fun i => (i.zero, i.size, i.bytes)) = some (some (.string ⟨#[]⟩), 1, 16) := by kernel_rfl
/-- the slice value v owns the strings xs, in a block from B on -/
def SRow (w : World) (B : Nat) (v : Value) (xs : List ByteArray) : Prop := w.ownsRow B 9 1 v xs.length (xs.map Value.string)
section
variable {w w' : World} {B : Nat} {v : Value} {xs : List ByteArray}
theorem SRow.nil (w : World) (B : Nat) : SRow w B (.slice none 0 0) [] := World.ownsRow_nil _ _ _ _
theorem SRow.mono (h : SRow w B v xs) {B' : Nat} (hb : B' ≤ B) : SRow w B' v xs := by
  refine ⟨h.1, ?_⟩
  rcases h.2 with h2 | ⟨g, cap, cur, hv, hg, r⟩
  · exact .inl h2
  · exact .inr ⟨g, cap, cur, hv, Nat.le_trans hb hg, r⟩
theorem SRow.alloc (h : SRow w B v xs) (o : Obj) : SRow (w.alloc o) B v xs := World.ownsRow.alloc h o
theorem SRow.drew (h : SRow w B v xs) : SRow w.drew B v xs := h
theorem SRow.drewN (h : SRow w B v xs) (n : Nat) : SRow (w.drewN n) B v xs := h
/-- what is owned stays owned in a world in which nothing below its heap has turned -/
theorem SRow.below (h : SRow w B v xs) (hb : Below w.heap.size w w') : SRow w' B v xs :=
  World.ownsRow.kept (row := none) h ⟨hb.os, hb.tape, hb.output, hb.size, fun k hk _ => hb.block k hk⟩ (by cases v.ownBlock <;> simp)
/-- a row that is not empty has a head -/
theorem SRow.form (h : SRow w B v xs) (hx : 0 < xs.length) : ∃ g c, v = .slice (some ⟨g, 0, none⟩) xs.length c ∧ B ≤ g ∧ g < w.heap.size ∧ xs.length ≤ c ∧ c ≤ maxLen := by
  rcases h.2 with ⟨_, h0⟩ | ⟨g, cap, cur, hv, hg, hh, hc, hm, _⟩
  · omega
  · exact ⟨g, cap, hv, hg, (Array.getElem?_eq_some_iff.1 hh).1, hc, hm⟩
theorem SRow.shape (h : SRow w B v xs) : ∃ A c, v = .slice A xs.length c := by
  rcases h.2 with ⟨h1, h0⟩ | ⟨g, cap, cur, hv, _⟩
  · exact ⟨none, 0, by rw [h1, h0]⟩
  · exact ⟨_, cap, hv⟩
theorem SRow.form' {n : Nat} (h : SRow w B v xs) (hn : xs.length = n) (hx : 0 < n) : ∃ g c, v = .slice (some ⟨g, 0, none⟩) n c ∧ B ≤ g ∧ g < w.heap.size := by
  subst hn
  obtain ⟨g, c, h1, h2, h3, _⟩ := h.form hx
  exact ⟨g, c, h1, h2, h3⟩
theorem SRow.cell {g c n : Nat} (h : SRow w B (.slice (some ⟨g, 0, none⟩) n c) xs) {j : Nat} (hj : j < xs.length) : w.cell? ⟨g, j, none⟩ = some (.string (xs.getD j ByteArray.empty)) := by
  have hn : n = xs.length := by
    rcases h.2 with ⟨h0, _⟩ | ⟨g', cap, cur, hv, _⟩
    · simp at h0
    · simp at hv; exact hv.2.1
  subst hn
  rw [World.ownsRow.cellAt h j (by omega)]
  simp [hj]
theorem SRow.free {g c n : Nat} (h : SRow w B (.slice (some ⟨g, 0, none⟩) n c) xs) (j : Nat) : w.frozen? ⟨g, j, none⟩ = false := by
  have hn : n = xs.length := by
    rcases h.2 with ⟨h0, _⟩ | ⟨g', cap, cur, hv, _⟩
    · simp at h0
    · simp at hv; exact hv.2.1
  subst hn
  exact World.ownsRow.frozenAt h j
theorem SRow.set {g c n : Nat} (h : SRow w B (.slice (some ⟨g, 0, none⟩) n c) xs) (j : Nat) (u : ByteArray) :
    SRow (w.setCell ⟨g, j, none⟩ (.string u)) B (.slice (some ⟨g, 0, none⟩) n c) (xs.set j u) ∧ w.grownBy (w.setCell ⟨g, j, none⟩ (.string u)) (some g) := by
  have hn : n = xs.length := by
    rcases h.2 with ⟨h0, _⟩ | ⟨g', cap, cur, hv, _⟩
    · simp at h0
    · simp at hv; exact hv.2.1
  subst hn
  have := World.ownsRow.stored h j (.string u)
  refine ⟨?_, this.2⟩
  have h1 := this.1
  unfold SRow
  rw [List.length_set, List.map_set]
  exact h1
theorem SRow.lt {g c n : Nat} (h : SRow w B (.slice (some ⟨g, 0, none⟩) n c) xs) : B ≤ g ∧ g < w.heap.size := World.ownsRow.lt h g rfl
theorem SRow.of_own {n : Nat} {ys : List Value} (h : w.ownsRow B 9 1 v n ys) (hn : n = xs.length) (hy : ys = xs.map Value.string) : SRow w B v xs := by subst hn hy; exact h
end

/-- append of one string to a slice of the call's own: one goal, the new slice owns one more -/
theorem wpList_pushS {ops : Array Oper} {rest : List Oper} {o : Oper} {a : Act} {Q : Exit → Act → World → Prop} {w : World} {u : ByteArray} (s x : Operand) (hgd : o.guard = none)
    (ho : o.op = .call { callee := .builtin .append, args := #[s, x], argTypes := #[86, 86] })
    (B : Nat) (v : Value) (xs : List ByteArray) (hs : a.eval s = v) (hown : SRow w B v xs) (hx : a.eval x = .slice (some ⟨w.heap.size, 0, none⟩) 1 1)
    (hlen : xs.length ≤ 1099511627776) (hB : B ≤ w.heap.size)
    (h : ∀ v' w', SRow w' B v' (xs ++ [u]) → w.grownBy w' v.ownBlock → (v'.ownBlock = v.ownBlock ∨ ∃ g, v'.ownBlock = some g ∧ w.heap.size ≤ g) → wpList Try.prog ops Q rest (a.put o.dst v') w') :
    wpList Try.prog ops Q (o :: rest) a (w.alloc (.cells #[.string u] 9)) := by
  obtain ⟨i0, hi, hz0, hz1, hz2⟩ := info_parts strInfo
  refine wpList_append_own_at _ hgd s x 86 ho B 9 i0 (.string ⟨#[]⟩) 1 16 Try.underlying86 hi hz0 hz1 hz2 rfl (by decide) v xs.length (xs.map Value.string) hs (World.ownsRow.alloc hown _)
    ⟨w.heap.size, 0, none⟩ 1 1 [.string u] hx rfl ?_ ?_ ?_ ?_ ?_ ?_
  · intro j y hj
    match j, hj with
    | 0, hj => simp at hj; subst hj; simp [Addr.add]
  · intro y hy; simp at hy; subst hy; rfl
  · unfold maxLen; omega
  · omega
  · simp; omega
  · intro v' w' h1 h2 _ h4
    refine h v' w' ?_ (grown_alloc_left h2) ?_
    · unfold SRow
      simpa using h1
    · rcases h4 with h4 | h4
      · exact .inl h4
      · exact .inr ⟨_, h4, by simp⟩

/-- append of one string to a slice of the call's own: one goal, the new slice owns one more -/
theorem wpList_pushSG {ops : Array Oper} {rest : List Oper} {o : Oper} {a : Act} {Q : Exit → Act → World → Prop} {w : World} {u : ByteArray} (s x : Operand) (hgd : o.guard = none)
    (ho : o.op = .call { callee := .builtin .append, args := #[s, x], argTypes := #[86, 86] })
    (B : Nat) (v : Value) (xs : List ByteArray) (hs : a.eval s = v) (hown : SRow w B v xs) (gb : Nat) (hgb : gb = w.heap.size) (hx : a.eval x = .slice (some ⟨gb, 0, none⟩) 1 1)
    (hlen : xs.length ≤ 1099511627776) (hB : B ≤ w.heap.size)
    (h : ∀ v' w', SRow w' B v' (xs ++ [u]) → w.grownBy w' v.ownBlock → (v'.ownBlock = v.ownBlock ∨ ∃ g, v'.ownBlock = some g ∧ w.heap.size ≤ g) → wpList Try.prog ops Q rest (a.put o.dst v') w') :
    wpList Try.prog ops Q (o :: rest) a (w.alloc (.cells #[.string u] 9)) := by
  subst hgb
  obtain ⟨i0, hi, hz0, hz1, hz2⟩ := info_parts strInfo
  refine wpList_append_own_at _ hgd s x 86 ho B 9 i0 (.string ⟨#[]⟩) 1 16 Try.underlying86 hi hz0 hz1 hz2 rfl (by decide) v xs.length (xs.map Value.string) hs (World.ownsRow.alloc hown _)
    ⟨w.heap.size, 0, none⟩ 1 1 [.string u] hx rfl ?_ ?_ ?_ ?_ ?_ ?_
  · intro j y hj
    match j, hj with
    | 0, hj => simp at hj; subst hj; simp [Addr.add]
  · intro y hy; simp at hy; subst hy; rfl
  · unfold maxLen; omega
  · omega
  · simp; omega
  · intro v' w' h1 h2 _ h4
    refine h v' w' ?_ (grown_alloc_left h2) ?_
    · unfold SRow
      simpa using h1
    · rcases h4 with h4 | h4
      · exact .inl h4
      · exact .inr ⟨_, h4, by simp⟩

/-- A call that hands back a slice of strings of its own and a bool. -/
def StrsRet (w : World) (ok : Bool) (xs : List ByteArray) (e : Ending) (w' : World) : Prop :=
  ∃ v, e = .returned (.tuple #[v, .bool ok]) ∧ SRow w' w.heap.size v xs ∧ Below w.heap.size w w'
/-- two rows: the one below, the other new -/
theorem SRow.grown_other {w w' : World} {B B2 : Nat} {v v2 : Value} {xs : List ByteArray} (h : SRow w B v xs) (hg : w.grownBy w' v2.ownBlock) (hv : ∀ k, v.ownBlock = some k → k < B2) (hv2 : ∀ k, v2.ownBlock = some k → B2 ≤ k) : SRow w' B v xs :=
  World.ownsRow.kept h hg (by
    cases e : v.ownBlock with
    | none => exact .inl rfl
    | some k =>
      right
      intro e2
      have a := hv k e
      have b := hv2 k e2.symm
      omega)
theorem SRow.blk {w : World} {B : Nat} {v : Value} {xs : List ByteArray} (h : SRow w B v xs) : ∀ k, v.ownBlock = some k → B ≤ k ∧ k < w.heap.size := World.ownsRow.lt h
end Go.Proofs.Ytmfcknlpbliehab

/- markText: some text that depends on its number alone. -/
namespace Go.Proofs.Ytmfcknlpbliehab
open Go.RowKit
def mtGo : Nat → Nat → ByteArray → ByteArray
  | 0, _, out => out
  | f + 1, k, out => if 0 < k then mtGo f (k / 10) (⟨#[UInt8.ofNat (48 + k % 10)]⟩ ++ out) else out
def mt (k : Nat) : ByteArray := ⟨#[109]⟩ ++ mtGo (k + 1) k ⟨#[]⟩
theorem mtGo_step {f k : Nat} {out : ByteArray} (h : 0 < k) : mtGo (f + 1) k out = mtGo f (k / 10) (⟨#[UInt8.ofNat (48 + k % 10)]⟩ ++ out) := by rw [mtGo, if_pos h]
theorem mtGo_end {f : Nat} {out : ByteArray} : mtGo f 0 out = out := by
  cases f <;> rfl
theorem run_one_byte (w : World) (n : Nat) (hn : n < 256) : (convert 22 9 (.slice (some ⟨w.heap.size, 0, none⟩) 1 1)).run Try.prog (w.alloc (.cells #[.int .u8 ((n : Nat) : Int)] 5)) = .ok (.string ⟨#[UInt8.ofNat n]⟩) (w.alloc (.cells #[.int .u8 ((n : Nat) : Int)] 5)) := by
  have := run_convert_bytes_back (P := Try.prog) (w.alloc (.cells #[.int .u8 ((n : Nat) : Int)] 5)) 22 9 5 ⟨w.heap.size, 0, none⟩ 1 [UInt8.ofNat n] Try.underlying22 Try.underlying5 Try.underlying9 (fun j hj => by
    obtain rfl : j = 0 := by simp at hj; omega
    simp [Addr.add]; omega)
  simpa using this
end Go.Proofs.Ytmfcknlpbliehab

/- The cursor of the laws' draws: spoilt, anyPath. -/
namespace Go.Proofs.Ytmfcknlpbliehab
open Go.RowKit
theorem ext_size (s : ByteArray) (a b : Nat) : (s.extract a b).size ≤ s.size := by
  rw [ByteArray.size_extract]; omega
theorem ext_size2 (s : ByteArray) (a b : Nat) (h : b ≤ s.size) : (s.extract a b).size = b - a := by
  rw [ByteArray.size_extract]; omega
set_option maxRecDepth 100000 in
set_option maxHeartbeats 4000000 in
theorem spoilt_any (w : World) (g : Nat) (A : Option Addr) (len cap T : Nat) (t0 W0 : ByteArray) (hm : t0.size ≤ 1000) (hw : 1 ≤ W0.size ∧ W0.size ≤ 1000) (hc : Cur w g A len cap T) (hT : T ≤ 1000000000) (hl : len ≤ 1099511627776) :
    Calls Try.prog 61 #[.pointer (some ⟨g, 0, none⟩), .string t0, .string W0] w (CurRet w g A len cap (T + 14) (StrP (SizeTo (t0.size + 2)))) := by
  have HP := Lib.hid (pick_any w g A len cap T 2 (by omega) hc (by omega) hl)
  clear hc
  go_enter Try.func61, Try.ntmps61
  go_wp2_with fail
  refine HP.out.mono ?_
  rintro e w1 ⟨v, rfl, ⟨x, rfl, hx1, hx2⟩, hcur, hg⟩
  obtain ⟨k0, rfl⟩ : ∃ k : Nat, x = (k : Int) := ⟨x.toNat, by omega⟩
  have HCU := Lib.hid hcur
  have HG := Lib.hid hg
  clear hcur hg
  go_wp2
  go_loopw [1, 7] (fun o t wr => ∃ (k : Nat) (out : ByteArray) (Tc : Nat), o = .string out ∧ t = .int .i64 (k : Int) ∧ k ≤ 2 ∧ out.size + k ≤ t0.size + 2 ∧ Tc + 6 * k ≤ T + 14 ∧ Hid (Cur wr g A len cap Tc) ∧ Hid (w.grownBy wr (some g))) (fun _ t _ => (intOf t).toNat)
  case atStart => exact ⟨k0 + 1, t0, T + 2, rfl, by go_num, by omega, by omega, by omega, HCU, HG⟩
  case round =>
    obtain ⟨k, out, Tc, rfl, rfl, hk2, hsz, hTc, HC, HGR⟩ := hrel
    by_cases hlt : 0 < k
    · by_cases h0 : 0 < out.size
      · have HP1 := Lib.hid (pick_any wr g A len cap Tc (out.size : Nat) (by omega) HC.out (by omega) hl)
        clear hx1 hx2
        go_wp2_with fail
        refine HP1.out.mono ?_
        rintro e w2 ⟨v, rfl, ⟨x, rfl, hx1, hx2⟩, hcur, hg⟩
        obtain ⟨i, rfl⟩ : ∃ k : Nat, x = (k : Int) := ⟨x.toNat, by omega⟩
        have hi : i < out.size := by omega
        have HP2 := Lib.hid (pick_any w2 g A len cap (Tc + 2) (W0.size : Nat) (by omega) hcur (by omega) hl)
        have HG2 := Lib.hid (grown_trans' HGR.out hg)
        clear hcur hg hx1 hx2
        go_wp2_with fail
        refine HP2.out.mono ?_
        rintro e w3 ⟨v, rfl, ⟨x, rfl, hx1, hx2⟩, hcur, hg⟩
        obtain ⟨j, rfl⟩ : ∃ k : Nat, x = (k : Int) := ⟨x.toNat, by omega⟩
        have hj : j < W0.size := by omega
        have hcv := run_one_byte w3 (W0[j]).toNat (UInt8.toNat_lt _)
        have HG3 := Lib.hid (grown_trans' HG2.out hg)
        have HP3 := Lib.hid (pick_any (w3.alloc (.cells #[.int .u8 (((W0[j]).toNat : Nat) : Int)] 5)) g A len cap (Tc + 4) 3 (by omega) (hcur.alloc _) (by omega) hl)
        have hb1 := size1 (UInt8.ofNat (W0[j]).toNat)
        generalize (⟨#[UInt8.ofNat (W0[j]).toNat]⟩ : ByteArray) = bb at *
        clear hcur hg hx1 hx2
        go_wp2_with fail
        refine HP3.out.mono ?_
        rintro e w4 ⟨v, rfl, ⟨x, rfl, hx1, hx2⟩, hcur, hg⟩
        have HG4 := Lib.hid (grown_trans' (grown_alloc' HG3.out _) hg)
        have HCU4 := Lib.hid hcur
        clear hcur hg hcv
        have hx : x = 0 ∨ x = 1 ∨ x = 2 := by omega
        clear hx1 hx2
        have hi1 : i ≤ out.size := by omega
        have hi2 : i + 1 ≤ out.size := by omega
        have e1 := ext_size2 out 0 i hi1
        have e2 := ext_size2 out i out.size (Nat.le_refl _)
        have e3 := ext_size2 out (i + 1) out.size (Nat.le_refl _)
        rcases hx with rfl | rfl | rfl
        · go_wp2
          go_quiet (fail)
          go_wp2
          go_roundw
          case rel => exact ⟨k - 1, out.extract 0 i ++ bb ++ out.extract i out.size, Tc + 6, rfl, by go_num, by omega, by simp only [ByteArray.size_append]; omega, by omega, Lib.hid (HCU4.out.drewN _), Lib.hid (grown_drewN HG4.out _)⟩
          case measure => simp [intOf]; omega
        · go_wp2
          go_quiet (fail)
          go_wp2
          go_roundw
          case rel => exact ⟨k - 1, out.extract 0 i ++ bb ++ out.extract (i + 1) out.size, Tc + 6, rfl, by go_num, by omega, by simp only [ByteArray.size_append]; omega, by omega, Lib.hid (HCU4.out.drewN _), Lib.hid (grown_drewN HG4.out _)⟩
          case measure => simp [intOf]; omega
        · go_wp2
          go_quiet (fail)
          go_wp2
          go_roundw
          case rel => exact ⟨k - 1, out.extract 0 i ++ out.extract (i + 1) out.size, Tc + 6, rfl, by go_num, by omega, by simp only [ByteArray.size_append]; omega, by omega, Lib.hid (HCU4.out.drewN _), Lib.hid (grown_drewN HG4.out _)⟩
          case measure => simp [intOf]; omega
      · have hz : out.size = 0 := by omega
        have b1 : decide ((0 : Int) < (out.size : Int)) = false := decide_eq_false (by omega)
        go_wp2
        go_ret
        exact ⟨_, rfl, ⟨out, rfl, by unfold SizeTo; omega⟩, HC.out.mono (by omega), HGR.out⟩
    · obtain rfl : k = 0 := by omega
      go_wp2
      go_ret
      exact ⟨_, rfl, ⟨out, rfl, by unfold SizeTo; omega⟩, HC.out.mono (by omega), HGR.out⟩
def strLen : Value → Nat
  | .string s => s.size
  | _ => 0
theorem rowPairs (w : World) : RowS (w.alloc (.cells #[.string ⟨#[85, 68]⟩, .string ⟨#[68, 85]⟩, .string ⟨#[85, 85]⟩] 9)) w.heap.size 3 (fun s => s.size = 2) := by
  refine ⟨by simp, fun j hj => ?_⟩
  match j, hj with
  | 0, _ => exact ⟨⟨#[85, 68]⟩, rfl, by simp⟩
  | 1, _ => exact ⟨⟨#[68, 85]⟩, rfl, by simp⟩
  | 2, _ => exact ⟨⟨#[85, 85]⟩, rfl, by simp⟩
set_option maxRecDepth 100000 in
set_option maxHeartbeats 4000000 in
theorem anyPath_any (w : World) (g : Nat) (A : Option Addr) (len cap T most : Nat) (hm : most ≤ 40) (hc : Cur w g A len cap T) (hT : T ≤ 100000000) (hl : len ≤ 1099511627776) :
    Calls Try.prog 40 #[.pointer (some ⟨g, 0, none⟩), .int .i64 (most : Nat)] w (CurRet w g A len cap (T + 1000) (StrP (SizeTo 50))) := by
  have HP := Lib.hid (pick_any w g A len cap T 16 (by omega) hc (by omega) hl)
  clear hc
  go_enter Try.func40, Try.ntmps40
  go_wp2_with fail
  refine HP.out.mono ?_
  rintro e w1 ⟨v, rfl, ⟨x, rfl, hx1, hx2⟩, hcur, hg⟩
  have HCU := Lib.hid hcur
  have HG := Lib.hid hg
  clear hcur hg HP
  have h5 : (5 : Nat) = (⟨#[85, 68, 88, 32, 117]⟩ : ByteArray).size := rfl
  by_cases h0 : x = 0
  · subst h0
    have HPA := Lib.hid (path_any w1 g A len cap (T + 2) most (by omega) HCU.out (by omega) hl)
    go_wp2_with fail
    refine HPA.out.mono ?_
    rintro e w2 ⟨v, rfl, ⟨s, rfl, hs⟩, hcur, hg⟩
    have hs : s.size ≤ most := hs
    have HSP := Lib.hid (spoilt_any w2 g A len cap (T + 2 + 2 + 2 * most) s ⟨#[85, 68, 88, 32, 117]⟩ (by omega) ⟨by rw [← h5]; omega, by rw [← h5]; omega⟩ hcur (by omega) hl)
    have HG2 := Lib.hid (grown_trans' HG.out hg)
    clear hcur hg
    go_wp2_with fail
    refine HSP.out.mono ?_
    rintro e w3 ⟨v, rfl, ⟨s2, rfl, hs2⟩, hcur, hg⟩
    have hs2 : s2.size ≤ s.size + 2 := hs2
    have HCU3 := Lib.hid hcur
    have HG3 := Lib.hid (grown_trans' HG2.out hg)
    clear hcur hg
    go_wp2
    go_ret
    exact ⟨_, rfl, ⟨s2, rfl, by unfold SizeTo; omega⟩, HCU3.out.mono (by omega), HG3.out⟩
  · have b0 : (x == 0) = false := beq_eq_false_iff_ne.2 h0
    by_cases h1 : x = 1
    · subst h1
      clear b0 h0
      go_wp2
      go_loopw [5] (fun o wr => ∃ (out : ByteArray) (Tc : Nat), o = .string out ∧ out.size ≤ 43 ∧ Tc + 2 * (44 - out.size) ≤ T + 100 ∧ Hid (Cur wr g A len cap Tc) ∧ Hid (w.grownBy wr (some g))) (fun o _ => 44 - strLen o)
      case atStart => exact ⟨⟨#[]⟩, T + 2, rfl, by show 0 ≤ 43; omega, by show T + 2 + 2 * (44 - 0) ≤ T + 100; omega, HCU, HG⟩
      case round =>
        obtain ⟨out, Tc, rfl, hsz, hTc, HC, HGR⟩ := hrel
        have HP1 := Lib.hid (pick_any wr g A len cap Tc 2 (by omega) HC.out (by omega) hl)
        clear hx1 hx2
        go_wp2_with fail
        refine HP1.out.mono ?_
        rintro e w2 ⟨v, rfl, ⟨x, rfl, hx1, hx2⟩, hcur, hg⟩
        have HG2 := Lib.hid (grown_trans' HGR.out hg)
        have hgl := hcur.lt
        have HC2 := Lib.hid hcur
        have HOF := Lib.hid (of_any (fun s => s.size = 2) (w2.alloc (.cells #[.string ⟨#[85, 68]⟩, .string ⟨#[68, 85]⟩, .string ⟨#[85, 85]⟩] 9)) g A len cap (Tc + 2) w2.heap.size 3 3 (by omega) (rowPairs w2) (by omega) (hcur.alloc _) (by omega) hl)
        clear hcur hg
        by_cases hlt : (out.size : Int) < 40 + x
        · go_wp2_with fail
          refine HOF.out.mono ?_
          rintro e w3 ⟨v, rfl, ⟨s, rfl, hs⟩, hcur, hg⟩
          have hs : s.size = 2 := hs
          have HC3 := Lib.hid hcur
          have HG3 := Lib.hid (grown_trans' (grown_alloc' HG2.out _) hg)
          clear hcur hg
          go_wp2
          go_roundw
          case rel => exact ⟨out ++ s, Tc + 4, rfl, by rw [ByteArray.size_append]; omega, by rw [ByteArray.size_append]; omega, HC3, HG3⟩
          case measure => simp [strLen, ByteArray.size_append]; omega
        · go_wp2
          go_ret
          exact ⟨_, rfl, ⟨out, rfl, by unfold SizeTo; omega⟩, HC2.out.mono (by omega), HG2.out⟩
    · have b1 : (x == 1) = false := beq_eq_false_iff_ne.2 h1
      by_cases h6 : x ≤ 6
      · have HGP := Lib.hid (goodPath_any w1 g A len cap (T + 2) (most / 2) (by omega) HCU.out (by omega) hl)
        have hx : x = 2 ∨ x = 3 ∨ x = 4 ∨ x = 5 ∨ x = 6 := by omega
        clear b0 b1 h0 h1 h6 hx1 hx2
        rcases hx with rfl | rfl | rfl | rfl | rfl
        all_goals
          go_wp2_with fail
          refine HGP.out.mono ?_
          rintro e w2 ⟨v, rfl, ⟨s, rfl, hs⟩, hcur, hg⟩
          have hs : s.size ≤ 2 * (most / 2) := hs
          have HC3 := Lib.hid hcur
          have HG3 := Lib.hid (grown_trans' HG.out hg)
          clear hcur hg
          go_wp2
          go_ret
          exact ⟨_, rfl, ⟨s, rfl, by unfold SizeTo; omega⟩, HC3.out.mono (by omega), HG3.out⟩
      · have b2 : (x == 2) = false := beq_eq_false_iff_ne.2 (by omega)
        have b3 : (x == 3) = false := beq_eq_false_iff_ne.2 (by omega)
        have b4 : (x == 4) = false := beq_eq_false_iff_ne.2 (by omega)
        have b5 : (x == 5) = false := beq_eq_false_iff_ne.2 (by omega)
        have b6 : (x == 6) = false := beq_eq_false_iff_ne.2 (by omega)
        have HPA := Lib.hid (path_any w1 g A len cap (T + 2) most (by omega) HCU.out (by omega) hl)
        clear h0 h1 h6
        go_wp2_with fail
        refine HPA.out.mono ?_
        rintro e w2 ⟨v, rfl, ⟨s, rfl, hs⟩, hcur, hg⟩
        have hs : s.size ≤ most := hs
        have HC3 := Lib.hid hcur
        have HG3 := Lib.hid (grown_trans' HG.out hg)
        clear hcur hg
        go_wp2
        go_ret
        exact ⟨_, rfl, ⟨s, rfl, by unfold SizeTo; omega⟩, HC3.out.mono (by omega), HG3.out⟩
end Go.Proofs.Ytmfcknlpbliehab
