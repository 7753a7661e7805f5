/- The program's IsDegrees (with slices.Min and Max), ExcessOf, IsForest, isTree. -/
import Derived.Test.YtnlcainfkchieaaInList
import Derived.Test.YtnlcainfkchieaaDeg
import Derived.Lib.MinMax
namespace Go.Proofs.Ytnlcainfkchieaa
open Go.RowKit
set_option linter.unusedVariables false
def mnT (xs : List Int) : Nat → Int
  | 0 => xs.getD 0 0
  | k + 1 => min (mnT xs k) (xs.getD (k + 1) 0)
def mxT (xs : List Int) : Nat → Int
  | 0 => xs.getD 0 0
  | k + 1 => max (mxT xs k) (xs.getD (k + 1) 0)
theorem mnT_iff (xs : List Int) (a : Int) : ∀ k, a ≤ mnT xs k ↔ ∀ j, j ≤ k → a ≤ xs.getD j 0
  | 0 => by
    rw [mnT]
    exact ⟨fun h j hj => by rw [show j = 0 by omega]; exact h, fun h => h 0 (Nat.le_refl _)⟩
  | k + 1 => by
    rw [mnT, Int.le_min, mnT_iff xs a k]
    exact ⟨fun h j hj => by
      by_cases e : j = k + 1
      · rw [e]; exact h.2
      · exact h.1 j (by omega), fun h => ⟨fun j hj => h j (by omega), h _ (Nat.le_refl _)⟩⟩
theorem mxT_iff (xs : List Int) (a : Int) : ∀ k, mxT xs k ≤ a ↔ ∀ j, j ≤ k → xs.getD j 0 ≤ a
  | 0 => by
    rw [mxT]
    exact ⟨fun h j hj => by rw [show j = 0 by omega]; exact h, fun h => h 0 (Nat.le_refl _)⟩
  | k + 1 => by
    rw [mxT, Int.max_le, mxT_iff xs a k]
    exact ⟨fun h j hj => by
      by_cases e : j = k + 1
      · rw [e]; exact h.2
      · exact h.1 j (by omega), fun h => ⟨fun j hj => h j (by omega), h _ (Nat.le_refl _)⟩⟩
theorem degB_iff (xs : List Int) : degB xs = true ↔ (1 ≤ xs.length ∧ xs.length ≤ 16) ∧ ∀ k, k < xs.length → 0 ≤ xs.getD k 0 ∧ xs.getD k 0 ≤ 16 := by
  refine ⟨degB_of, fun ⟨h1, h2⟩ => ?_⟩
  unfold degB allB inBd
  rw [Bool.and_eq_true, List.all_eq_true]
  refine ⟨by simp; omega, fun x hx => ?_⟩
  obtain ⟨i, hi, rfl⟩ := List.mem_iff_getElem.1 hx
  have := h2 i hi
  rw [List.getD_eq_getElem?_getD, List.getElem?_eq_getElem hi] at this
  simpa using this
theorem degB_mm (xs : List Int) (h : 1 ≤ xs.length ∧ xs.length ≤ 16) : degB xs = (decide (0 ≤ mnT xs (xs.length - 1)) && decide (mxT xs (xs.length - 1) ≤ 16)) := by
  rw [Bool.eq_iff_iff, Bool.and_eq_true, decide_eq_true_iff, decide_eq_true_iff, degB_iff, mnT_iff, mxT_iff]
  exact ⟨fun ⟨_, h2⟩ => ⟨fun j hj => (h2 j (by omega)).1, fun j hj => (h2 j (by omega)).2⟩, fun ⟨h1, h2⟩ => ⟨h, fun k hk => ⟨h1 k (by omega), h2 k (by omega)⟩⟩⟩
theorem degB_out (xs : List Int) (h : ¬ (1 ≤ xs.length ∧ xs.length ≤ 16)) : degB xs = false := by
  rw [Bool.eq_false_iff]
  intro e
  exact h (degB_of e).1
def treeB (xs : List Int) : Bool := forV xs && decide (exc xs = 1)
end Go.Proofs.Ytnlcainfkchieaa
