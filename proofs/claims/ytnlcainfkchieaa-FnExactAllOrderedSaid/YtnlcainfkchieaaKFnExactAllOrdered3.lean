/- Pack 3 of what FnExactAllOrdered needs: SOwn, MarkText. -/
import Derived.Test.YtnlcainfkchieaaKFnExactAllOrdered2
import Derived.Deep.QuietTactic
import Derived.BigQuiet
/- Words for memory: a slice of strings that the call owns. -/
namespace Go.Proofs.Ytnlcainfkchieaa
open Go.RowKit
theorem strInfo : (Try.prog.info? 9).map (fun i => (i.zero, i.size, i.bytes)) = some (some (.string ⟨#[]⟩), 1, 16) := by kernel_rfl
/-- the slice value v owns the strings xs, in a block from B on -/
def SRow (w : World) (B : Nat) (v : Value) (xs : List ByteArray) : Prop := w.ownsRow B 9 1 v xs.length (xs.map Value.string)
section
variable {w w' : World} {B : Nat} {v : Value} {xs : List ByteArray}
theorem SRow.nil (w : World) (B : Nat) : SRow w B (.slice none 0 0) [] := World.ownsRow_nil _ _ _ _
theorem SRow.mono (h : SRow w B v xs) {B' : Nat} (hb : B' ≤ B) : SRow w B' v xs := by
  refine ⟨h.1, ?_⟩
  rcases h.2 with h2 | ⟨g, cap, cur, hv, hg, r⟩
  · exact .inl h2
  · exact .inr ⟨g, cap, cur, hv, Nat.le_trans hb hg, r⟩
theorem SRow.alloc (h : SRow w B v xs) (o : Obj) : SRow (w.alloc o) B v xs := World.ownsRow.alloc h o
theorem SRow.drew (h : SRow w B v xs) : SRow w.drew B v xs := h
theorem SRow.drewN (h : SRow w B v xs) (n : Nat) : SRow (w.drewN n) B v xs := h
/-- what is owned stays owned in a world in which nothing below its heap has turned -/
theorem SRow.below (h : SRow w B v xs) (hb : Below w.heap.size w w') : SRow w' B v xs :=
  World.ownsRow.kept (row := none) h ⟨hb.os, hb.tape, hb.output, hb.size, fun k hk _ => hb.block k hk⟩ (by cases v.ownBlock <;> simp)
/-- a row that is not empty has a head -/
theorem SRow.form (h : SRow w B v xs) (hx : 0 < xs.length) : ∃ g c, v = .slice (some ⟨g, 0, none⟩) xs.length c ∧ B ≤ g ∧ g < w.heap.size ∧ xs.length ≤ c ∧ c ≤ maxLen := by
  rcases h.2 with ⟨_, h0⟩ | ⟨g, cap, cur, hv, hg, hh, hc, hm, _⟩
  · omega
  · exact ⟨g, cap, hv, hg, (Array.getElem?_eq_some_iff.1 hh).1, hc, hm⟩
theorem SRow.shape (h : SRow w B v xs) : ∃ A c, v = .slice A xs.length c := by
  rcases h.2 with ⟨h1, h0⟩ | ⟨g, cap, cur, hv, _⟩
  · exact ⟨none, 0, by rw [h1, h0]⟩
  · exact ⟨_, cap, hv⟩
theorem SRow.form' {n : Nat} (h : SRow w B v xs) (hn : xs.length = n) (hx : 0 < n) : ∃ g c, v = .slice (some ⟨g, 0, none⟩) n c ∧ B ≤ g ∧ g < w.heap.size := by
  subst hn
  obtain ⟨g, c, h1, h2, h3, _⟩ := h.form hx
  exact ⟨g, c, h1, h2, h3⟩
theorem SRow.cell {g c n : Nat} (h : SRow w B (.slice (some ⟨g, 0, none⟩) n c) xs) {j : Nat} (hj : j < xs.length) : w.cell? ⟨g, j, none⟩ = some (.string (xs.getD j ByteArray.empty)) := by
  have hn : n = xs.length := by
    rcases h.2 with ⟨h0, _⟩ | ⟨g', cap, cur, hv, _⟩
    · simp at h0
    · simp at hv; exact hv.2.1
  subst hn
  rw [World.ownsRow.cellAt h j (by omega)]
  simp [hj]
theorem SRow.free {g c n : Nat} (h : SRow w B (.slice (some ⟨g, 0, none⟩) n c) xs) (j : Nat) : w.frozen? ⟨g, j, none⟩ = false := by
  have hn : n = xs.length := by
    rcases h.2 with ⟨h0, _⟩ | ⟨g', cap, cur, hv, _⟩
    · simp at h0
    · simp at hv; exact hv.2.1
  subst hn
  exact World.ownsRow.frozenAt h j
theorem SRow.set {g c n : Nat} (h : SRow w B (.slice (some ⟨g, 0, none⟩) n c) xs) (j : Nat) (u : ByteArray) :
    SRow (w.setCell ⟨g, j, none⟩ (.string u)) B (.slice (some ⟨g, 0, none⟩) n c) (xs.set j u) ∧ w.grownBy (w.setCell ⟨g, j, none⟩ (.string u)) (some g) := by
  have hn : n = xs.length := by
    rcases h.2 with ⟨h0, _⟩ | ⟨g', cap, cur, hv, _⟩
    · simp at h0
    · simp at hv; exact hv.2.1
  subst hn
  have := World.ownsRow.stored h j (.string u)
  refine ⟨?_, this.2⟩
  have h1 := this.1
  unfold SRow
  rw [List.length_set, List.map_set]
  exact h1
theorem SRow.lt {g c n : Nat} (h : SRow w B (.slice (some ⟨g, 0, none⟩) n c) xs) : B ≤ g ∧ g < w.heap.size := World.ownsRow.lt h g rfl
theorem SRow.of_own {n : Nat} {ys : List Value} (h : w.ownsRow B 9 1 v n ys) (hn : n = xs.length) (hy : ys = xs.map Value.string) : SRow w B v xs := by subst hn hy; exact h
end

/-- append of one string to a slice of the call's own: one goal, the new slice owns one more -/
theorem wpList_pushS {ops : Array Oper} {rest : List Oper} {o : Oper} {a : Act} {Q : Exit → Act → World → Prop} {w : World} {u : ByteArray} (s x : Operand) (hgd : o.guard = none)
    (ho : o.op = .call { callee := .builtin .append, args := #[s, x], argTypes := #[34, 34] })
    (B : Nat) (v : Value) (xs : List ByteArray) (hs : a.eval s = v) (hown : SRow w B v xs) (hx : a.eval x = .slice (some ⟨w.heap.size, 0, none⟩) 1 1)
    (hlen : xs.length ≤ 1099511627776) (hB : B ≤ w.heap.size)
    (h : ∀ v' w', SRow w' B v' (xs ++ [u]) → w.grownBy w' v.ownBlock → (v'.ownBlock = v.ownBlock ∨ ∃ g, v'.ownBlock = some g ∧ w.heap.size ≤ g) → wpList Try.prog ops Q rest (a.put o.dst v') w') :
    wpList Try.prog ops Q (o :: rest) a (w.alloc (.cells #[.string u] 9)) := by
  obtain ⟨i0, hi, hz0, hz1, hz2⟩ := info_parts strInfo
  refine wpList_append_own_at _ hgd s x 34 ho B 9 i0 (.string ⟨#[]⟩) 1 16 Try.underlying34 hi hz0 hz1 hz2 rfl (by decide) v xs.length (xs.map Value.string) hs (World.ownsRow.alloc hown _)
    ⟨w.heap.size, 0, none⟩ 1 1 [.string u] hx rfl ?_ ?_ ?_ ?_ ?_ ?_
  · intro j y hj
    match j, hj with
    | 0, hj => simp at hj; subst hj; simp [Addr.add]
  · intro y hy; simp at hy; subst hy; rfl
  · unfold maxLen; omega
  · omega
  · simp; omega
  · intro v' w' h1 h2 _ h4
    refine h v' w' ?_ (grown_alloc_left h2) ?_
    · unfold SRow
      simpa using h1
    · rcases h4 with h4 | h4
      · exact .inl h4
      · exact .inr ⟨_, h4, by simp⟩

/-- append of one string to a slice of the call's own: one goal, the new slice owns one more -/
theorem wpList_pushSG {ops : Array Oper} {rest : List Oper} {o : Oper} {a : Act} {Q : Exit → Act → World → Prop} {w : World} {u : ByteArray} (s x : Operand) (hgd : o.guard = none)
    (ho : o.op = .call { callee := .builtin .append, args := #[s, x], argTypes := #[34, 34] })
    (B : Nat) (v : Value) (xs : List ByteArray) (hs : a.eval s = v) (hown : SRow w B v xs) (gb : Nat) (hgb : gb = w.heap.size) (hx : a.eval x = .slice (some ⟨gb, 0, none⟩) 1 1)
    (hlen : xs.length ≤ 1099511627776) (hB : B ≤ w.heap.size)
    (h : ∀ v' w', SRow w' B v' (xs ++ [u]) → w.grownBy w' v.ownBlock → (v'.ownBlock = v.ownBlock ∨ ∃ g, v'.ownBlock = some g ∧ w.heap.size ≤ g) → wpList Try.prog ops Q rest (a.put o.dst v') w') :
    wpList Try.prog ops Q (o :: rest) a (w.alloc (.cells #[.string u] 9)) := by
  subst hgb
  obtain ⟨i0, hi, hz0, hz1, hz2⟩ := info_parts strInfo
  refine wpList_append_own_at _ hgd s x 34 ho B 9 i0 (.string ⟨#[]⟩) 1 16 Try.underlying34 hi hz0 hz1 hz2 rfl (by decide) v xs.length (xs.map Value.string) hs (World.ownsRow.alloc hown _)
    ⟨w.heap.size, 0, none⟩ 1 1 [.string u] hx rfl ?_ ?_ ?_ ?_ ?_ ?_
  · intro j y hj
    match j, hj with
    | 0, hj => simp at hj; subst hj; simp [Addr.add]
  · intro y hy; simp at hy; subst hy; rfl
  · unfold maxLen; omega
  · omega
  · simp; omega
  · intro v' w' h1 h2 _ h4
    refine h v' w' ?_ (grown_alloc_left h2) ?_
    · unfold SRow
      simpa using h1
    · rcases h4 with h4 | h4
      · exact .inl h4
      · exact .inr ⟨_, h4, by simp⟩

/-- A call that hands back a slice of strings of its own and a bool. -/
def StrsRet (w : World) (ok : Bool) (xs : List ByteArray) (e : Ending) (w' : World) : Prop :=
  ∃ v, e = .returned (.tuple #[v, .bool ok]) ∧ SRow w' w.heap.size v xs ∧ Below w.heap.size w w'
/-- two rows: the one below, the other new -/
theorem SRow.grown_other {w w' : World} {B B2 : Nat} {v v2 : Value} {xs : List ByteArray} (h : SRow w B v xs) (hg : w.grownBy w' v2.ownBlock) (hv : ∀ k, v.ownBlock = some k → k < B2) (hv2 : ∀ k, v2.ownBlock = some k → B2 ≤ k) : SRow w' B v xs :=
  World.ownsRow.kept h hg (by
    cases e : v.ownBlock with
    | none => exact .inl rfl
    | some k =>
      right
      intro e2
      have a := hv k e
      have b := hv2 k e2.symm
      omega)
theorem SRow.blk {w : World} {B : Nat} {v : Value} {xs : List ByteArray} (h : SRow w B v xs) : ∀ k, v.ownBlock = some k → B ≤ k ∧ k < w.heap.size := World.ownsRow.lt h
end Go.Proofs.Ytnlcainfkchieaa

/- markText: some text that depends on its number alone. -/
namespace Go.Proofs.Ytnlcainfkchieaa
open Go.RowKit
def mtGo : Nat → Nat → ByteArray → ByteArray
  | 0, _, out => out
  | f + 1, k, out => if 0 < k then mtGo f (k / 10) (⟨#[UInt8.ofNat (48 + k % 10)]⟩ ++ out) else out
def mt (k : Nat) : ByteArray := ⟨#[109]⟩ ++ mtGo (k + 1) k ⟨#[]⟩
theorem mtGo_step {f k : Nat} {out : ByteArray} (h : 0 < k) : mtGo (f + 1) k out = mtGo f (k / 10) (⟨#[UInt8.ofNat (48 + k % 10)]⟩ ++ out) := by rw [mtGo, if_pos h]
theorem mtGo_end {f : Nat} {out : ByteArray} : mtGo f 0 out = out := by
  cases f <;> rfl
theorem run_one_byte (w : World) (n : Nat) (hn : n < 256) : (convert 67 9 (.slice (some ⟨w.heap.size, 0, none⟩) 1 1)).run Try.prog (w.alloc (.cells #[.int .u8 ((n : Nat) : Int)] 5)) = .ok (.string ⟨#[UInt8.ofNat n]⟩) (w.alloc (.cells #[.int .u8 ((n : Nat) : Int)] 5)) := by
  have := run_convert_bytes_back (P := Try.prog) (w.alloc (.cells #[.int .u8 ((n : Nat) : Int)] 5)) 67 9 5 ⟨w.heap.size, 0, none⟩ 1 [UInt8.ofNat n] Try.underlying67 Try.underlying5 Try.underlying9 (fun j hj => by
    obtain rfl : j = 0 := by simp at hj; omega
    simp [Addr.add]; omega)
  simpa using this
set_option maxRecDepth 100000 in
set_option maxHeartbeats 1000000 in
theorem markText_any (K : Nat) (w : World) (h1 : 0 < K) (h2 : K ≤ 1099511627776) :
    Calls Try.prog 53 #[.int .i64 (K : Nat)] w (Ret w (.string (mt K))) := by
  have HM : Hid (mt K = ⟨#[109]⟩ ++ mtGo (K + 1) K ⟨#[]⟩) := rfl
  generalize hN : mtGo (K + 1) K ⟨#[]⟩ = N at HM
  generalize mt K = M at *
  go_enter Try.func53, Try.ntmps53
  go_wp2
  go_loopw [0, 3] (fun t o wr => ∃ (k : Nat) (out : ByteArray), t = .int .i64 (k : Int) ∧ o = .string out ∧ out.size + k ≤ K ∧ Hid (∃ f, k < f ∧ mtGo f k out = N) ∧ Below w.heap.size w wr) (fun t _ _ => (intOf t).toNat)
  case atStart => exact ⟨K, ⟨#[]⟩, rfl, rfl, by show 0 + K ≤ K; omega, Lib.hid ⟨K + 1, by omega, hN⟩, Below.refl _ _⟩
  case round =>
    obtain ⟨k, out, rfl, rfl, hsz, HA, hb⟩ := hrel
    by_cases hlt : 0 < k
    · have HA2 : Hid (∃ f, k / 10 < f ∧ mtGo f (k / 10) (⟨#[UInt8.ofNat (48 + k % 10)]⟩ ++ out) = N) := by
        obtain ⟨f, h3, h4⟩ := HA.out
        obtain ⟨g, rfl⟩ : ∃ g, f = g + 1 := ⟨f - 1, by omega⟩
        rw [mtGo_step hlt] at h4
        exact ⟨g, by omega, h4⟩
      have hcv := run_one_byte wr (48 + k % 10) (by omega)
      have hz : ((48 + k % 10 : Nat) : Int) = 48 + (k : Int) % 10 := by omega
      rw [hz] at hcv
      have hs1 : (⟨#[UInt8.ofNat (48 + k % 10)]⟩ : ByteArray).size = 1 := rfl
      generalize (⟨#[UInt8.ofNat (48 + k % 10)]⟩ : ByteArray) = d at *
      go_wp2
      go_roundw
      case rel => exact ⟨k / 10, d ++ out, by go_num, rfl, by rw [ByteArray.size_append]; omega, HA2, hb.alloc (by have := hb.size; omega) _⟩
      case measure => simp [intOf]; omega
    · obtain rfl : k = 0 := by omega
      have HX : Hid (out = N) := by
        obtain ⟨f, h3, h4⟩ := HA.out
        rw [mtGo_end] at h4
        exact h4
      go_wp2
      go_ret
      exact ⟨ret_s (by rw [HM.out, HX.out]), hb⟩
end Go.Proofs.Ytnlcainfkchieaa
