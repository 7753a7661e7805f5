/- Pack 3 of what FnRotationsGood needs: CycMath, Own. -/
import Derived.Test.YtmfcknlpbliehabKFnRotationsGood2
import Derived.Test.YtmfcknlpbliehabProg
import Derived.WalkKit
import Derived.WalkSpells
import Derived.WalkLawsBesides
import Derived.Lib.Hide
import Derived.Maps.AppendAt
/- The cycle lemma: a walk that falls by at most one a step and by e each time around comes e times a time around to a new low. -/
namespace Go.Proofs.Ytmfcknlpbliehab
open Go.RowKit
set_option linter.unusedVariables false
def mn (F : Nat → Int) : Nat → Int
  | 0 => F 0
  | k + 1 => if F (k + 1) < mn F k then F (k + 1) else mn F k
theorem mn_le (F : Nat → Int) : ∀ k j, j ≤ k → mn F k ≤ F j
  | 0, j, h => by obtain rfl : j = 0 := by omega
                  exact Int.le_refl _
  | k + 1, j, h => by
    rw [mn]
    by_cases e : j = k + 1
    · subst e; split <;> omega
    · have := mn_le F k j (by omega)
      split <;> omega
theorem mn_at (F : Nat → Int) : ∀ k, ∃ j, j ≤ k ∧ mn F k = F j
  | 0 => ⟨0, Nat.le_refl _, rfl⟩
  | k + 1 => by
    rw [mn]
    obtain ⟨j, h1, h2⟩ := mn_at F k
    split
    · exact ⟨k + 1, Nat.le_refl _, rfl⟩
    · exact ⟨j, by omega, h2⟩
def lowB (F : Nat → Int) (p : Nat) : Bool := decide (F (p + 1) < mn F p)
theorem lowB_iff (F : Nat → Int) (p : Nat) : lowB F p = true ↔ ∀ j, j ≤ p → F (p + 1) < F j := by
  unfold lowB
  rw [decide_eq_true_iff]
  constructor
  · intro h j hj
    have := mn_le F p j hj
    omega
  · intro h
    obtain ⟨j, h1, h2⟩ := mn_at F p
    rw [h2]
    exact h j h1
def cntB (P : Nat → Bool) : Nat → Nat
  | 0 => 0
  | k + 1 => cntB P k + (if P k = true then 1 else 0)
theorem cntB_congr {P Q : Nat → Bool} : ∀ k, (∀ j, j < k → P j = Q j) → cntB P k = cntB Q k
  | 0, _ => rfl
  | k + 1, h => by rw [cntB, cntB, cntB_congr k (fun j hj => h j (by omega)), h k (by omega)]
theorem cntB_front (P : Nat → Bool) : ∀ k, cntB P (k + 1) = (if P 0 = true then 1 else 0) + cntB (fun j => P (j + 1)) k
  | 0 => by simp [cntB]
  | k + 1 => by rw [cntB, cntB_front P k, cntB]; omega
theorem cntB_rev : ∀ (k : Nat) (P : Nat → Bool), cntB (fun j => P (k - 1 - j)) k = cntB P k
  | 0, _ => rfl
  | k + 1, P => by
    rw [cntB_front, cntB, ← cntB_rev k P]
    have : cntB (fun j => (fun j => P (k + 1 - 1 - j)) (j + 1)) k = cntB (fun j => P (k - 1 - j)) k := cntB_congr k fun j hj => by
      show P (k + 1 - 1 - (j + 1)) = P (k - 1 - j)
      congr 1
      omega
    rw [this]
    show (if P (k + 1 - 1 - 0) = true then 1 else 0) + _ = _
    rw [show k + 1 - 1 - 0 = k by omega]
    omega
theorem mn_cnt (F : Nat → Int) (a : Nat) : ∀ m, (∀ j, j < a + m → F j - 1 ≤ F (j + 1)) → mn F (a + m) = mn F a - ((cntB (fun i => lowB F (a + i)) m : Nat) : Int)
  | 0, _ => by simp [cntB]
  | m + 1, h => by
    have ih := mn_cnt F a m fun j hj => h j (by omega)
    have hs := h (a + m) (by omega)
    have hl := mn_le F (a + m) (a + m) (Nat.le_refl _)
    show mn F (a + m + 1) = _
    rw [mn, cntB]
    unfold lowB
    by_cases hc : F (a + m + 1) < mn F (a + m)
    · rw [if_pos hc, if_pos (decide_eq_true hc)]
      unfold lowB at ih
      omega
    · rw [if_neg hc, if_neg (by rw [decide_eq_true_iff]; exact hc)]
      unfold lowB at ih
      omega
theorem mn_per (F : Nat → Int) (n a : Nat) (e : Int) (he : 0 ≤ e) (ha : n ≤ a + 1) (ha2 : a ≤ n) (hper : ∀ j, j ≤ n → F (j + n) = F j - e) : mn F (a + n) = mn F a - e := by
  obtain ⟨j, h1, h2⟩ := mn_at F a
  have e1 := mn_le F (a + n) (j + n) (by omega)
  rw [hper j (by omega)] at e1
  obtain ⟨i, h3, h4⟩ := mn_at F (a + n)
  have e2 : mn F a - e ≤ F i := by
    by_cases hi : n ≤ i
    · have := hper (i - n) (by omega)
      rw [show i - n + n = i by omega] at this
      have := mn_le F a (i - n) (by omega)
      omega
    · have := mn_le F a i (by omega)
      omega
  omega
theorem cyc (F : Nat → Int) (n a : Nat) (e : Int) (he : 0 ≤ e) (ha : n ≤ a + 1) (ha2 : a ≤ n) (hstep : ∀ j, j < 2 * n → F j - 1 ≤ F (j + 1)) (hper : ∀ j, j ≤ n → F (j + n) = F j - e) :
    ((cntB (fun i => lowB F (a + i)) n : Nat) : Int) = e := by
  have h1 := mn_per F n a e he ha ha2 hper
  have h2 := mn_cnt F a n fun j hj => hstep j (by omega)
  omega
-- degrees
theorem upB_iff (xs : List Int) (r : Int) : ∀ k, upB xs r k = true ↔ ∀ j, j < k → j + 1 < xs.length → -r < sumT xs (j + 1) - ((j + 1 : Nat) : Int)
  | 0 => by simp [upB]
  | k + 1 => by
    rw [upB, Bool.and_eq_true, upB_iff xs r k, Bool.not_eq_true', Bool.and_eq_false_iff, decide_eq_false_iff_not, decide_eq_false_iff_not]
    constructor
    · rintro ⟨h1, h2⟩ j hj hl
      by_cases e : j = k
      · subst e
        rcases h2 with h2 | h2 <;> omega
      · exact h1 j (by omega) hl
    · intro h
      refine ⟨fun j hj hl => h j (by omega) hl, ?_⟩
      by_cases hl : k + 1 < xs.length
      · have := h k (by omega) hl
        exact .inl (by omega)
      · exact .inr hl
def dbl (xs : List Int) (j : Nat) : Int := ((xs ++ xs).take j).sum - (j : Int)
theorem sum_take_app (xs ys : List Int) (j : Nat) : ((xs ++ ys).take (xs.length + j)).sum = xs.sum + (ys.take j).sum := by
  rw [List.take_append, List.take_of_length_le (by omega), List.sum_append, show xs.length + j - xs.length = j by omega]
theorem sum_rot (xs : List Int) (k : Nat) (hk : k ≤ xs.length) (j : Nat) (hj : j ≤ xs.length) : sumT (rot xs k) j = ((xs ++ xs).take (k + j)).sum - ((xs ++ xs).take k).sum := by
  have h1 : (xs ++ xs).take (k + j) = (xs ++ xs).take k ++ ((xs ++ xs).drop k).take j := by
    rw [List.take_add]
  have h2 : ((xs ++ xs).drop k).take j = (rot xs k).take j := by
    unfold rot
    rw [List.drop_append, show k - xs.length = 0 by omega, List.drop_zero, List.take_append, List.take_append, List.length_drop, List.take_take]
    congr 2
    omega
  rw [h1, h2, List.sum_append, sumT]
  omega
theorem exc_sum (xs : List Int) : exc xs = (xs.length : Int) - xs.sum := by unfold exc sumT; rw [List.take_length]
theorem exc_rot (xs : List Int) (k : Nat) (hk : k ≤ xs.length) : exc (rot xs k) = exc xs := by
  rw [exc_sum, exc_sum, rot_length xs k hk]
  have : (rot xs k).sum = xs.sum := by
    unfold rot
    rw [List.sum_append, Int.add_comm, ← List.sum_append, List.take_append_drop]
  rw [this]
theorem dbl_per (xs : List Int) (j : Nat) (hj : j ≤ xs.length) : dbl xs (j + xs.length) = dbl xs j - exc xs := by
  unfold dbl
  rw [Nat.add_comm j, sum_take_app, exc_sum, List.take_append_of_le_length hj]
  omega
theorem dbl_step (xs : List Int) (h : ∀ x ∈ xs, 0 ≤ x) (j : Nat) (hj : j < 2 * xs.length) : dbl xs j - 1 ≤ dbl xs (j + 1) := by
  unfold dbl
  have hl : j < (xs ++ xs).length := by rw [List.length_append]; omega
  rw [List.take_succ_eq_append_getElem hl, List.sum_append]
  have hm : (xs ++ xs)[j] ∈ xs ++ xs := List.getElem_mem hl
  have h2 := h _ ((List.mem_append.1 hm).elim id id)
  rw [List.sum_cons, List.sum_nil]
  omega
theorem forB_low_iff (xs : List Int) (he : 1 ≤ exc xs) (k : Nat) (hk : k < xs.length) : forB (rot xs k) = lowB (dbl xs) (xs.length - 1 + k) := by
  rw [Bool.eq_iff_iff, lowB_iff]
  unfold forB
  rw [exc_rot xs k (by omega), decide_eq_true he, Bool.true_and, upB_iff, rot_length xs k (by omega)]
  have hp := fun j hj => dbl_per xs j hj
  have hd : ∀ j, j ≤ xs.length → sumT (rot xs k) j - (j : Int) = dbl xs (k + j) - dbl xs k := fun j hj => by
    rw [sum_rot xs k (by omega) j hj]; unfold dbl; omega
  have hk2 := hp k (by omega)
  rw [show xs.length - 1 + k + 1 = k + xs.length by omega, hk2]
  constructor
  · intro h j hj
    by_cases hjk : j ≤ k
    · have h1 := hp j (by omega)
      by_cases e : j = k
      · subst e; omega
      · have h2 := h (j + xs.length - k - 1) (by omega) (by omega)
        have h3 := hd (j + xs.length - k - 1 + 1) (by omega)
        rw [show k + (j + xs.length - k - 1 + 1) = j + xs.length by omega] at h3
        omega
    · have h2 := h (j - k - 1) (by omega) (by omega)
      have h3 := hd (j - k - 1 + 1) (by omega)
      rw [show k + (j - k - 1 + 1) = j by omega] at h3
      omega
  · intro h j hj hl
    have h2 := h (k + (j + 1)) (by omega)
    have h3 := hd (j + 1) (by omega)
    omega
end Go.Proofs.Ytmfcknlpbliehab

/- Words for memory: a slice of ints that the call owns; facts on it. -/
namespace Go.Proofs.Ytmfcknlpbliehab
open Go.RowKit

theorem intInfo : (Try.prog.info? 3).map (fun i => (i.zero, i.size, i.bytes)) = some (some (.int .i64 0), 1, 8) := by kernel_rfl
/-- the slice value v owns the ints xs, in a block from B on -/
def IRow (w : World) (B : Nat) (v : Value) (xs : List Int) : Prop := w.ownsRow B 3 1 v xs.length (xs.map (Value.int .i64))
section
variable {w w' : World} {B : Nat} {v : Value} {xs : List Int}
theorem IRow.nil (w : World) (B : Nat) : IRow w B (.slice none 0 0) [] := World.ownsRow_nil _ _ _ _
theorem IRow.mono (h : IRow w B v xs) {B' : Nat} (hb : B' ≤ B) : IRow w B' v xs := by
  refine ⟨h.1, ?_⟩
  rcases h.2 with h2 | ⟨g, cap, cur, hv, hg, r⟩
  · exact .inl h2
  · exact .inr ⟨g, cap, cur, hv, Nat.le_trans hb hg, r⟩
theorem IRow.alloc (h : IRow w B v xs) (o : Obj) : IRow (w.alloc o) B v xs := World.ownsRow.alloc h o
theorem IRow.drew (h : IRow w B v xs) : IRow w.drew B v xs := h
theorem IRow.drewN (h : IRow w B v xs) (n : Nat) : IRow (w.drewN n) B v xs := h
/-- what is owned stays owned in a world in which nothing below its heap has turned -/
theorem IRow.below (h : IRow w B v xs) (hb : Below w.heap.size w w') : IRow w' B v xs :=
  World.ownsRow.kept (row := none) h ⟨hb.os, hb.tape, hb.output, hb.size, fun k hk _ => hb.block k hk⟩ (by cases v.ownBlock <;> simp)
/-- a row that is not empty has a head -/
theorem IRow.form (h : IRow w B v xs) (hx : 0 < xs.length) : ∃ g c, v = .slice (some ⟨g, 0, none⟩) xs.length c ∧ B ≤ g ∧ g < w.heap.size ∧ xs.length ≤ c ∧ c ≤ maxLen := by
  rcases h.2 with ⟨_, h0⟩ | ⟨g, cap, cur, hv, hg, hh, hc, hm, _⟩
  · omega
  · exact ⟨g, cap, hv, hg, (Array.getElem?_eq_some_iff.1 hh).1, hc, hm⟩
theorem IRow.shape (h : IRow w B v xs) : ∃ A c, v = .slice A xs.length c := by
  rcases h.2 with ⟨h1, h0⟩ | ⟨g, cap, cur, hv, _⟩
  · exact ⟨none, 0, by rw [h1, h0]⟩
  · exact ⟨_, cap, hv⟩
theorem IRow.form' {n : Nat} (h : IRow w B v xs) (hn : xs.length = n) (hx : 0 < n) : ∃ g c, v = .slice (some ⟨g, 0, none⟩) n c ∧ B ≤ g ∧ g < w.heap.size := by
  subst hn
  obtain ⟨g, c, h1, h2, h3, _⟩ := h.form hx
  exact ⟨g, c, h1, h2, h3⟩
theorem IRow.cell {g c n : Nat} (h : IRow w B (.slice (some ⟨g, 0, none⟩) n c) xs) {j : Nat} (hj : j < xs.length) : w.cell? ⟨g, j, none⟩ = some (.int .i64 (xs.getD j 0)) := by
  have hn : n = xs.length := by
    rcases h.2 with ⟨h0, _⟩ | ⟨g', cap, cur, hv, _⟩
    · simp at h0
    · simp at hv; exact hv.2.1
  subst hn
  rw [World.ownsRow.cellAt h j (by omega)]
  simp [hj]
theorem IRow.free {g c n : Nat} (h : IRow w B (.slice (some ⟨g, 0, none⟩) n c) xs) (j : Nat) : w.frozen? ⟨g, j, none⟩ = false := by
  have hn : n = xs.length := by
    rcases h.2 with ⟨h0, _⟩ | ⟨g', cap, cur, hv, _⟩
    · simp at h0
    · simp at hv; exact hv.2.1
  subst hn
  exact World.ownsRow.frozenAt h j
theorem IRow.set {g c n : Nat} (h : IRow w B (.slice (some ⟨g, 0, none⟩) n c) xs) (j : Nat) (u : Int) :
    IRow (w.setCell ⟨g, j, none⟩ (.int .i64 u)) B (.slice (some ⟨g, 0, none⟩) n c) (xs.set j u) ∧ w.grownBy (w.setCell ⟨g, j, none⟩ (.int .i64 u)) (some g) := by
  have hn : n = xs.length := by
    rcases h.2 with ⟨h0, _⟩ | ⟨g', cap, cur, hv, _⟩
    · simp at h0
    · simp at hv; exact hv.2.1
  subst hn
  have := World.ownsRow.stored h j (.int .i64 u)
  refine ⟨?_, this.2⟩
  have h1 := this.1
  unfold IRow
  rw [List.length_set, List.map_set]
  exact h1
theorem IRow.lt {g c n : Nat} (h : IRow w B (.slice (some ⟨g, 0, none⟩) n c) xs) : B ≤ g ∧ g < w.heap.size := World.ownsRow.lt h g rfl
theorem IRow.of_own {n : Nat} {ys : List Value} (h : w.ownsRow B 3 1 v n ys) (hn : n = xs.length) (hy : ys = xs.map (Value.int .i64)) : IRow w B v xs := by subst hn hy; exact h
end

theorem still {P : Program} {f : FuncId} {args : Array Value} {w : World} {v : Value} (h : Calls P f args w fun e w' => e = .returned v ∧ w = w') :
    Calls P f args w fun e w' => e = .returned v ∧ w' = w := h.mono fun _ _ ⟨h1, h2⟩ => ⟨h1, h2.symm⟩
theorem madeOne (z : Value) (hz : z.cells = #[z]) (n : Nat) : (madeCells z.cells (n * 1)).toList = List.replicate n z := by
  rw [hz, Nat.mul_one]; exact toList_madeCells_one z n
theorem ret_int {a b : Int} (h : a = b) : Ending.returned (.int .i64 a) = .returned (.int .i64 b) := by rw [h]

theorem grown_alloc_left {w w' : World} {o : Obj} {row : Option Nat} (h : (w.alloc o).grownBy w' row) : w.grownBy w' row :=
  ⟨h.os, h.tape, h.output, Nat.le_trans (by simp) h.size, fun k hk hne => (h.block k (by simp; omega) hne).trans (Below.heap_alloc w o k hk)⟩

/-- append of one int to a slice of the call's own: one goal, the new slice owns one more -/
theorem wpList_push {ops : Array Oper} {rest : List Oper} {o : Oper} {a : Act} {Q : Exit → Act → World → Prop} {w : World} {u : Int} (s x : Operand) (hgd : o.guard = none)
    (ho : o.op = .call { callee := .builtin .append, args := #[s, x], argTypes := #[24, 24] })
    (B : Nat) (v : Value) (xs : List Int) (hs : a.eval s = v) (hown : IRow w B v xs) (hx : a.eval x = .slice (some ⟨w.heap.size, 0, none⟩) 1 1)
    (hlen : xs.length ≤ 1099511627776) (hB : B ≤ w.heap.size)
    (h : ∀ v' w', IRow w' B v' (xs ++ [u]) → w.grownBy w' v.ownBlock → (v'.ownBlock = v.ownBlock ∨ ∃ g, v'.ownBlock = some g ∧ w.heap.size ≤ g) → wpList Try.prog ops Q rest (a.put o.dst v') w') :
    wpList Try.prog ops Q (o :: rest) a (w.alloc (.cells #[.int .i64 u] 3)) := by
  obtain ⟨i0, hi, hz0, hz1, hz2⟩ := info_parts intInfo
  refine wpList_append_own_at _ hgd s x 24 ho B 3 i0 (.int .i64 0) 1 8 Try.underlying24 hi hz0 hz1 hz2 rfl (by decide) v xs.length (xs.map (Value.int .i64)) hs (World.ownsRow.alloc hown _)
    ⟨w.heap.size, 0, none⟩ 1 1 [.int .i64 u] hx rfl ?_ ?_ ?_ ?_ ?_ ?_
  · intro j y hj
    match j, hj with
    | 0, hj => simp at hj; subst hj; simp [Addr.add]
  · intro y hy; simp at hy; subst hy; rfl
  · unfold maxLen; omega
  · omega
  · simp; omega
  · intro v' w' h1 h2 _ h4
    refine h v' w' ?_ (grown_alloc_left h2) ?_
    · unfold IRow
      simpa using h1
    · rcases h4 with h4 | h4
      · exact .inl h4
      · exact .inr ⟨_, h4, by simp⟩

/-- append of one int to a slice of the call's own: one goal, the new slice owns one more -/
theorem wpList_pushG {ops : Array Oper} {rest : List Oper} {o : Oper} {a : Act} {Q : Exit → Act → World → Prop} {w : World} {u : Int} (s x : Operand) (hgd : o.guard = none)
    (ho : o.op = .call { callee := .builtin .append, args := #[s, x], argTypes := #[24, 24] })
    (B : Nat) (v : Value) (xs : List Int) (hs : a.eval s = v) (hown : IRow w B v xs) (gb : Nat) (hgb : gb = w.heap.size) (hx : a.eval x = .slice (some ⟨gb, 0, none⟩) 1 1)
    (hlen : xs.length ≤ 1099511627776) (hB : B ≤ w.heap.size)
    (h : ∀ v' w', IRow w' B v' (xs ++ [u]) → w.grownBy w' v.ownBlock → (v'.ownBlock = v.ownBlock ∨ ∃ g, v'.ownBlock = some g ∧ w.heap.size ≤ g) → wpList Try.prog ops Q rest (a.put o.dst v') w') :
    wpList Try.prog ops Q (o :: rest) a (w.alloc (.cells #[.int .i64 u] 3)) := by
  subst hgb
  obtain ⟨i0, hi, hz0, hz1, hz2⟩ := info_parts intInfo
  refine wpList_append_own_at _ hgd s x 24 ho B 3 i0 (.int .i64 0) 1 8 Try.underlying24 hi hz0 hz1 hz2 rfl (by decide) v xs.length (xs.map (Value.int .i64)) hs (World.ownsRow.alloc hown _)
    ⟨w.heap.size, 0, none⟩ 1 1 [.int .i64 u] hx rfl ?_ ?_ ?_ ?_ ?_ ?_
  · intro j y hj
    match j, hj with
    | 0, hj => simp at hj; subst hj; simp [Addr.add]
  · intro y hy; simp at hy; subst hy; rfl
  · unfold maxLen; omega
  · omega
  · simp; omega
  · intro v' w' h1 h2 _ h4
    refine h v' w' ?_ (grown_alloc_left h2) ?_
    · unfold IRow
      simpa using h1
    · rcases h4 with h4 | h4
      · exact .inl h4
      · exact .inr ⟨_, h4, by simp⟩

/-- A call that hands back a new slice of ints and true. -/
def IntsOk (w : World) (xs : List Int) (e : Ending) (w' : World) : Prop :=
  ∃ v, e = .returned (.tuple #[v, .bool true]) ∧ IRow w' w.heap.size v xs ∧ Below w.heap.size w w'
/-- A call that hands back a new slice of ints. -/
def IntsNew (w : World) (xs : List Int) (e : Ending) (w' : World) : Prop :=
  ∃ v, e = .returned v ∧ IRow w' w.heap.size v xs ∧ Below w.heap.size w w'
/-- A call that fails: nil and false. -/
def IntsNo (w : World) (e : Ending) (w' : World) : Prop := e = .returned (.tuple #[.slice none 0 0, .bool false]) ∧ w = w'
/-- A call that hands back a slice of ints of its own and a bool. -/
def IntsRet (w : World) (ok : Bool) (xs : List Int) (e : Ending) (w' : World) : Prop :=
  ∃ v, e = .returned (.tuple #[v, .bool ok]) ∧ IRow w' w.heap.size v xs ∧ Below w.heap.size w w'
/-- A call that hands back the value v and leaves all that was there as it was. -/
def Ret (w : World) (v : Value) (e : Ending) (w' : World) : Prop := e = .returned v ∧ Below w.heap.size w w'
theorem IntsOk.ret {w : World} {xs : List Int} {e : Ending} {w' : World} (h : IntsOk w xs e w') : IntsRet w true xs e w' := h
theorem IntsNo.ret {w : World} {e : Ending} {w' : World} (h : IntsNo w e w') : IntsRet w false [] e w' := by
  obtain ⟨h1, rfl⟩ := h
  exact ⟨_, h1, IRow.nil _ _, Below.refl _ _⟩
theorem below_drewN {B : Nat} {a w : World} (h : Below B a w) (n : Nat) : Below B a (w.drewN n) := ⟨h.os, h.tape, h.output, h.size, h.block⟩
/-- two rows: the one below, the other new -/
theorem IRow.grown_other {w w' : World} {B B2 : Nat} {v v2 : Value} {xs : List Int} (h : IRow w B v xs) (hg : w.grownBy w' v2.ownBlock) (hv : ∀ k, v.ownBlock = some k → k < B2) (hv2 : ∀ k, v2.ownBlock = some k → B2 ≤ k) : IRow w' B v xs :=
  World.ownsRow.kept h hg (by
    cases e : v.ownBlock with
    | none => exact .inl rfl
    | some k =>
      right
      intro e2
      have a := hv k e
      have b := hv2 k e2.symm
      omega)
theorem IRow.blk {w : World} {B : Nat} {v : Value} {xs : List Int} (h : IRow w B v xs) : ∀ k, v.ownBlock = some k → B ≤ k ∧ k < w.heap.size := World.ownsRow.lt h
end Go.Proofs.Ytmfcknlpbliehab
