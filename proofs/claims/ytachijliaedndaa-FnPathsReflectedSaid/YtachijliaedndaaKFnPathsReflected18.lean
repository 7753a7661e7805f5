/- Pack 18 of what FnPathsReflected needs: Cur3, SOwn. -/
import Derived.Test.YtachijliaedndaaKFnPathsReflected17
/- The cursor of the laws' draws: path, goodPath. -/
namespace Go.Proofs.Ytachijliaedndaa
open Go.RowKit
theorem grown_of_below {w w' : World} (hb : Below w.heap.size w w') (r : Option Nat) : w.grownBy w' r := ⟨hb.os, hb.tape, hb.output, hb.size, fun k hk _ => hb.block k hk⟩
theorem grown_alloc' {w w' : World} {r : Option Nat} (h : w.grownBy w' r) (o : Obj) : w.grownBy (w'.alloc o) r := grown_trans' h (grown_of_below ((Below.refl _ _).alloc (Nat.le_refl _) o) r)
def SizeTo (n : Nat) (s : ByteArray) : Prop := s.size ≤ n
theorem rowUD (w : World) : RowS (w.alloc (.cells #[.string ⟨#[85]⟩, .string ⟨#[68]⟩] 9)) w.heap.size 2 (fun s => s.size = 1) := by
  refine ⟨by simp, fun j hj => ?_⟩
  match j, hj with
  | 0, _ => exact ⟨⟨#[85]⟩, rfl, by simp⟩
  | 1, _ => exact ⟨⟨#[68]⟩, rfl, by simp⟩
set_option maxRecDepth 100000 in
set_option maxHeartbeats 1000000 in
theorem path_any (w : World) (g : Nat) (A : Option Addr) (len cap T most : Nat) (hm : most ≤ 1000) (hc : Cur w g A len cap T) (hT : T ≤ 1000000000) (hl : len ≤ 1099511627776) :
    Calls Try.prog 242 #[.pointer (some ⟨g, 0, none⟩), .int .i64 (most : Nat)] w (CurRet w g A len cap (T + 2 + 2 * most) (StrP (SizeTo most))) := by
  have HP := Lib.hid (pick_any w g A len cap T ((most : Nat) + 1) (by omega) hc (by omega) hl)
  clear hc
  go_enter Try.func242, Try.ntmps242
  go_wp2_with fail
  refine HP.out.mono ?_
  rintro e w1 ⟨v, rfl, ⟨x, rfl, hx1, hx2⟩, hcur, hg⟩
  obtain ⟨k0, rfl⟩ : ∃ k : Nat, x = (k : Int) := ⟨x.toNat, by omega⟩
  have HCU := Lib.hid hcur
  have HG := Lib.hid hg
  clear hcur hg
  go_wp2
  go_loopw [5, 6] (fun o t wr => ∃ (k : Nat) (out : ByteArray) (Tc : Nat), o = .string out ∧ t = .int .i64 (k : Int) ∧ out.size + k ≤ most ∧ Tc + 2 * k ≤ T + 2 + 2 * most ∧ Hid (Cur wr g A len cap Tc) ∧ Hid (w.grownBy wr (some g))) (fun _ t _ => (intOf t).toNat)
  case atStart => exact ⟨k0, ⟨#[]⟩, T + 2, rfl, rfl, by show 0 + k0 ≤ most; omega, by omega, HCU, HG⟩
  case round =>
    obtain ⟨k, out, Tc, rfl, rfl, hsz, hTc, HC, HGR⟩ := hrel
    by_cases hlt : 0 < k
    · have hgl := HC.out.lt
      have HOF := Lib.hid (of_any (fun s => s.size = 1) (wr.alloc (.cells #[.string ⟨#[85]⟩, .string ⟨#[68]⟩] 9)) g A len cap Tc wr.heap.size 2 2 (by omega) (rowUD wr) (by omega) (HC.out.alloc _) (by omega) hl)
      go_wp2_with fail
      refine HOF.out.mono ?_
      rintro e w3 ⟨v, rfl, ⟨s, rfl, hs⟩, hcur, hg⟩
      have hs : s.size = 1 := hs
      have HCU2 := Lib.hid hcur
      have HG2 := Lib.hid hg
      clear hcur hg
      go_wp2
      go_roundw
      case rel => exact ⟨k - 1, out ++ s, Tc + 2, rfl, by go_num, by rw [ByteArray.size_append]; omega, by omega, HCU2, Lib.hid (grown_trans' (grown_alloc' HGR.out _) HG2.out)⟩
      case measure => simp [intOf]; omega
    · obtain rfl : k = 0 := by omega
      go_wp2
      go_ret
      exact ⟨_, rfl, ⟨out, rfl, by unfold SizeTo; omega⟩, HC.out.mono (by omega), HGR.out⟩
theorem size1 (b : UInt8) : (⟨#[b]⟩ : ByteArray).size = 1 := rfl
set_option maxRecDepth 100000 in
set_option maxHeartbeats 2000000 in
theorem goodPath_any (w : World) (g : Nat) (A : Option Addr) (len cap T most : Nat) (hm : most ≤ 1000) (hc : Cur w g A len cap T) (hT : T ≤ 1000000000) (hl : len ≤ 1099511627776) :
    Calls Try.prog 243 #[.pointer (some ⟨g, 0, none⟩), .int .i64 (most : Nat)] w (CurRet w g A len cap (T + 2 + 4 * most) (StrP (SizeTo (2 * most)))) := by
  have HP := Lib.hid (pick_any w g A len cap T ((most : Nat) + 1) (by omega) hc (by omega) hl)
  clear hc
  go_enter Try.func243, Try.ntmps243
  go_wp2_with fail
  refine HP.out.mono ?_
  rintro e w1 ⟨v, rfl, ⟨x, rfl, hx1, hx2⟩, hcur, hg⟩
  obtain ⟨k0, rfl⟩ : ∃ k : Nat, x = (k : Int) := ⟨x.toNat, by omega⟩
  have HCU := Lib.hid hcur
  have HG := Lib.hid hg
  clear hcur hg
  go_wp2
  go_loopw [5, 6, 8] (fun o z t wr => ∃ (k : Nat) (ht : Int) (out : ByteArray) (Tc : Nat), o = .string out ∧ z = .int .i64 ht ∧ t = .int .i64 (k : Int) ∧ out.size + k ≤ 2 * most ∧ -(out.size : Int) ≤ ht ∧ ht ≤ out.size ∧ Tc + 2 * k ≤ T + 2 + 4 * most ∧ Hid (Cur wr g A len cap Tc) ∧ Hid (w.grownBy wr (some g))) (fun _ _ t _ => (intOf t).toNat)
  case atStart => exact ⟨2 * k0, 0, ⟨#[]⟩, T + 2, rfl, rfl, by go_num, by show 0 + 2 * k0 ≤ 2 * most; omega, by omega, by omega, by omega, HCU, HG⟩
  case round =>
    obtain ⟨k, ht, out, Tc, rfl, rfl, rfl, hsz, hh1, hh2, hTc, HC, HGR⟩ := hrel
    have s1 := size1 85
    have s2 := size1 68
    by_cases hlt : 0 < k
    · by_cases he : ht = (k : Int)
      · have b1 : (ht == (k : Int)) = true := beq_iff_eq.2 he
        clear he
        go_wp2
        go_roundw
        case rel => exact ⟨k - 1, ht - 1, out ++ ⟨#[68]⟩, Tc, rfl, by go_num, by go_num, by rw [ByteArray.size_append]; omega, by rw [ByteArray.size_append]; omega, by rw [ByteArray.size_append]; omega, by omega, HC, HGR⟩
        case measure => simp [intOf]; omega
      · have b1 : (ht == (k : Int)) = false := beq_eq_false_iff_ne.2 he
        clear he
        by_cases hp : 0 < ht
        · have HON := Lib.hid (one_any wr g A len cap Tc 2 (by omega) HC.out (by omega) hl)
          go_wp2_with fail
          refine HON.out.mono ?_
          rintro e w3 ⟨v, rfl, ⟨b, rfl⟩, hcur, hg⟩
          have HCU2 := Lib.hid hcur
          have HG2 := Lib.hid hg
          clear hcur hg
          rcases Bool.eq_false_or_eq_true b with rfl | rfl
          · go_wp2
            go_roundw
            case rel => exact ⟨k - 1, ht - 1, out ++ ⟨#[68]⟩, Tc + 2, rfl, by go_num, by go_num, by rw [ByteArray.size_append]; omega, by rw [ByteArray.size_append]; omega, by rw [ByteArray.size_append]; omega, by omega, HCU2, Lib.hid (grown_trans' HGR.out HG2.out)⟩
            case measure => simp [intOf]; omega
          · go_wp2
            go_roundw
            case rel => exact ⟨k - 1, ht + 1, out ++ ⟨#[85]⟩, Tc + 2, rfl, by go_num, by go_num, by rw [ByteArray.size_append]; omega, by rw [ByteArray.size_append]; omega, by rw [ByteArray.size_append]; omega, by omega, HCU2, Lib.hid (grown_trans' HGR.out HG2.out)⟩
            case measure => simp [intOf]; omega
        · have b2 : decide (0 < ht) = false := decide_eq_false hp
          go_wp2
          go_roundw
          case rel => exact ⟨k - 1, ht + 1, out ++ ⟨#[85]⟩, Tc, rfl, by go_num, by go_num, by rw [ByteArray.size_append]; omega, by rw [ByteArray.size_append]; omega, by rw [ByteArray.size_append]; omega, by omega, HC, HGR⟩
          case measure => simp [intOf]; omega
    · obtain rfl : k = 0 := by omega
      go_wp2
      go_ret
      exact ⟨_, rfl, ⟨out, rfl, by unfold SizeTo; omega⟩, HC.out.mono (by omega), HGR.out⟩
end Go.Proofs.Ytachijliaedndaa

/- Words for memory: a slice of strings that the call owns. -/
namespace Go.Proofs.Ytachijliaedndaa
open Go.RowKit
theorem strInfo : (Try.prog.info? 9).map (fun i => (i.zero, i.size, i.bytes)) = some (some (.string ⟨#[]⟩), 1, 16) := by kernel_rfl
/-- the slice value v owns the strings xs, in a block from B on -/
def SRow (w : World) (B : Nat) (v : Value) (xs : List ByteArray) : Prop := w.ownsRow B 9 1 v xs.length (xs.map Value.string)
section
variable {w w' : World} {B : Nat} {v : Value} {xs : List ByteArray}
theorem SRow.nil (w : World) (B : Nat) : SRow w B (.slice none 0 0) [] := World.ownsRow_nil _ _ _ _
theorem SRow.mono (h : SRow w B v xs) {B' : Nat} (hb : B' ≤ B) : SRow w B' v xs := by
  refine ⟨h.1, ?_⟩
  rcases h.2 with h2 | ⟨g, cap, cur, hv, hg, r⟩
  · exact .inl h2
  · exact .inr ⟨g, cap, cur, hv, Nat.le_trans hb hg, r⟩
theorem SRow.alloc (h : SRow w B v xs) (o : Obj) : SRow (w.alloc o) B v xs := World.ownsRow.alloc h o
theorem SRow.drew (h : SRow w B v xs) : SRow w.drew B v xs := h
theorem SRow.drewN (h : SRow w B v xs) (n : Nat) : SRow (w.drewN n) B v xs := h
/-- what is owned stays owned in a world in which nothing below its heap has turned -/
theorem SRow.below (h : SRow w B v xs) (hb : Below w.heap.size w w') : SRow w' B v xs :=
  World.ownsRow.kept (row := none) h ⟨hb.os, hb.tape, hb.output, hb.size, fun k hk _ => hb.block k hk⟩ (by cases v.ownBlock <;> simp)
/-- a row that is not empty has a head -/
theorem SRow.form (h : SRow w B v xs) (hx : 0 < xs.length) : ∃ g c, v = .slice (some ⟨g, 0, none⟩) xs.length c ∧ B ≤ g ∧ g < w.heap.size ∧ xs.length ≤ c ∧ c ≤ maxLen := by
  rcases h.2 with ⟨_, h0⟩ | ⟨g, cap, cur, hv, hg, hh, hc, hm, _⟩
  · omega
  · exact ⟨g, cap, hv, hg, (Array.getElem?_eq_some_iff.1 hh).1, hc, hm⟩
theorem SRow.shape (h : SRow w B v xs) : ∃ A c, v = .slice A xs.length c := by
  rcases h.2 with ⟨h1, h0⟩ | ⟨g, cap, cur, hv, _⟩
  · exact ⟨none, 0, by rw [h1, h0]⟩
  · exact ⟨_, cap, hv⟩
theorem SRow.form' {n : Nat} (h : SRow w B v xs) (hn : xs.length = n) (hx : 0 < n) : ∃ g c, v = .slice (some ⟨g, 0, none⟩) n c ∧ B ≤ g ∧ g < w.heap.size := by
  subst hn
  obtain ⟨g, c, h1, h2, h3, _⟩ := h.form hx
  exact ⟨g, c, h1, h2, h3⟩
theorem SRow.cell {g c n : Nat} (h : SRow w B (.slice (some ⟨g, 0, none⟩) n c) xs) {j : Nat} (hj : j < xs.length) : w.cell? ⟨g, j, none⟩ = some (.string (xs.getD j ByteArray.empty)) := by
  have hn : n = xs.length := by
    rcases h.2 with ⟨h0, _⟩ | ⟨g', cap, cur, hv, _⟩
    · simp at h0
    · simp at hv; exact hv.2.1
  subst hn
  rw [World.ownsRow.cellAt h j (by omega)]
  simp [hj]
theorem SRow.free {g c n : Nat} (h : SRow w B (.slice (some ⟨g, 0, none⟩) n c) xs) (j : Nat) : w.frozen? ⟨g, j, none⟩ = false := by
  have hn : n = xs.length := by
    rcases h.2 with ⟨h0, _⟩ | ⟨g', cap, cur, hv, _⟩
    · simp at h0
    · simp at hv; exact hv.2.1
  subst hn
  exact World.ownsRow.frozenAt h j
theorem SRow.set {g c n : Nat} (h : SRow w B (.slice (some ⟨g, 0, none⟩) n c) xs) (j : Nat) (u : ByteArray) :
    SRow (w.setCell ⟨g, j, none⟩ (.string u)) B (.slice (some ⟨g, 0, none⟩) n c) (xs.set j u) ∧ w.grownBy (w.setCell ⟨g, j, none⟩ (.string u)) (some g) := by
  have hn : n = xs.length := by
    rcases h.2 with ⟨h0, _⟩ | ⟨g', cap, cur, hv, _⟩
    · simp at h0
    · simp at hv; exact hv.2.1
  subst hn
  have := World.ownsRow.stored h j (.string u)
  refine ⟨?_, this.2⟩
  have h1 := this.1
  unfold SRow
  rw [List.length_set, List.map_set]
  exact h1
theorem SRow.lt {g c n : Nat} (h : SRow w B (.slice (some ⟨g, 0, none⟩) n c) xs) : B ≤ g ∧ g < w.heap.size := World.ownsRow.lt h g rfl
theorem SRow.of_own {n : Nat} {ys : List Value} (h : w.ownsRow B 9 1 v n ys) (hn : n = xs.length) (hy : ys = xs.map Value.string) : SRow w B v xs := by subst hn hy; exact h
end

/-- append of one string to a slice of the call's own: one goal, the new slice owns one more -/
theorem wpList_pushS {ops : Array Oper} {rest : List Oper} {o : Oper} {a : Act} {Q : Exit → Act → World → Prop} {w : World} {u : ByteArray} (s x : Operand) (hgd : o.guard = none)
    (ho : o.op = .call { callee := .builtin .append, args := #[s, x], argTypes := #[66, 66] })
    (B : Nat) (v : Value) (xs : List ByteArray) (hs : a.eval s = v) (hown : SRow w B v xs) (hx : a.eval x = .slice (some ⟨w.heap.size, 0, none⟩) 1 1)
    (hlen : xs.length ≤ 1099511627776) (hB : B ≤ w.heap.size)
    (h : ∀ v' w', SRow w' B v' (xs ++ [u]) → w.grownBy w' v.ownBlock → (v'.ownBlock = v.ownBlock ∨ ∃ g, v'.ownBlock = some g ∧ w.heap.size ≤ g) → wpList Try.prog ops Q rest (a.put o.dst v') w') :
    wpList Try.prog ops Q (o :: rest) a (w.alloc (.cells #[.string u] 9)) := by
  obtain ⟨i0, hi, hz0, hz1, hz2⟩ := info_parts strInfo
  refine wpList_append_own_at _ hgd s x 66 ho B 9 i0 (.string ⟨#[]⟩) 1 16 Try.underlying66 hi hz0 hz1 hz2 rfl (by decide) v xs.length (xs.map Value.string) hs (World.ownsRow.alloc hown _)
    ⟨w.heap.size, 0, none⟩ 1 1 [.string u] hx rfl ?_ ?_ ?_ ?_ ?_ ?_
  · intro j y hj
    match j, hj with
    | 0, hj => simp at hj; subst hj; simp [Addr.add]
  · intro y hy; simp at hy; subst hy; rfl
  · unfold maxLen; omega
  · omega
  · simp; omega
  · intro v' w' h1 h2 _ h4
    refine h v' w' ?_ (grown_alloc_left h2) ?_
    · unfold SRow
      simpa using h1
    · rcases h4 with h4 | h4
      · exact .inl h4
      · exact .inr ⟨_, h4, by simp⟩

/-- append of one string to a slice of the call's own: one goal, the new slice owns one more -/
theorem wpList_pushSG {ops : Array Oper} {rest : List Oper} {o : Oper} {a : Act} {Q : Exit → Act → World → Prop} {w : World} {u : ByteArray} (s x : Operand) (hgd : o.guard = none)
    (ho : o.op = .call { callee := .builtin .append, args := #[s, x], argTypes := #[66, 66] })
    (B : Nat) (v : Value) (xs : List ByteArray) (hs : a.eval s = v) (hown : SRow w B v xs) (gb : Nat) (hgb : gb = w.heap.size) (hx : a.eval x = .slice (some ⟨gb, 0, none⟩) 1 1)
    (hlen : xs.length ≤ 1099511627776) (hB : B ≤ w.heap.size)
    (h : ∀ v' w', SRow w' B v' (xs ++ [u]) → w.grownBy w' v.ownBlock → (v'.ownBlock = v.ownBlock ∨ ∃ g, v'.ownBlock = some g ∧ w.heap.size ≤ g) → wpList Try.prog ops Q rest (a.put o.dst v') w') :
    wpList Try.prog ops Q (o :: rest) a (w.alloc (.cells #[.string u] 9)) := by
  subst hgb
  obtain ⟨i0, hi, hz0, hz1, hz2⟩ := info_parts strInfo
  refine wpList_append_own_at _ hgd s x 66 ho B 9 i0 (.string ⟨#[]⟩) 1 16 Try.underlying66 hi hz0 hz1 hz2 rfl (by decide) v xs.length (xs.map Value.string) hs (World.ownsRow.alloc hown _)
    ⟨w.heap.size, 0, none⟩ 1 1 [.string u] hx rfl ?_ ?_ ?_ ?_ ?_ ?_
  · intro j y hj
    match j, hj with
    | 0, hj => simp at hj; subst hj; simp [Addr.add]
  · intro y hy; simp at hy; subst hy; rfl
  · unfold maxLen; omega
  · omega
  · simp; omega
  · intro v' w' h1 h2 _ h4
    refine h v' w' ?_ (grown_alloc_left h2) ?_
    · unfold SRow
      simpa using h1
    · rcases h4 with h4 | h4
      · exact .inl h4
      · exact .inr ⟨_, h4, by simp⟩

/-- A call that hands back a slice of strings of its own and a bool. -/
def StrsRet (w : World) (ok : Bool) (xs : List ByteArray) (e : Ending) (w' : World) : Prop :=
  ∃ v, e = .returned (.tuple #[v, .bool ok]) ∧ SRow w' w.heap.size v xs ∧ Below w.heap.size w w'
/-- two rows: the one below, the other new -/
theorem SRow.grown_other {w w' : World} {B B2 : Nat} {v v2 : Value} {xs : List ByteArray} (h : SRow w B v xs) (hg : w.grownBy w' v2.ownBlock) (hv : ∀ k, v.ownBlock = some k → k < B2) (hv2 : ∀ k, v2.ownBlock = some k → B2 ≤ k) : SRow w' B v xs :=
  World.ownsRow.kept h hg (by
    cases e : v.ownBlock with
    | none => exact .inl rfl
    | some k =>
      right
      intro e2
      have a := hv k e
      have b := hv2 k e2.symm
      omega)
theorem SRow.blk {w : World} {B : Nat} {v : Value} {xs : List ByteArray} (h : SRow w B v xs) : ∀ k, v.ownBlock = some k → B ≤ k ∧ k < w.heap.size := World.ownsRow.lt h
end Go.Proofs.Ytachijliaedndaa
