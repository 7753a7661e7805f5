/- paChoose, paSteps, spec.CountPaths. -/
import Derived.Test.YtfimcadnlhohlaaCounts
import Derived.Test.YtfimcadnlhohlaaInB
import Derived.Test.YtfimcadnlhohlaaScalars
namespace Go.Proofs.Ytfimcadnlhohlaa
set_option maxRecDepth 100000
open Go.RowKit
/-- the row of the numbers for i, entries from j on already those for i + 1 -/
def chRow (k i j : Nat) : List Int := (List.range (k + 1)).map fun x => ((if j < x then chs (i + 1) x else chs i x : Nat) : Int)
theorem chRow_length (k i j : Nat) : (chRow k i j).length = k + 1 := by simp [chRow]
theorem chRow_get (k i j x : Nat) (h : x ≤ k) : (chRow k i j).getD x 0 = ((if j < x then chs (i + 1) x else chs i x : Nat) : Int) := by
  unfold chRow; rw [List.getD_eq_getElem?_getD, List.getElem?_map, List.getElem?_range (by omega)]; rfl
theorem chRow_start (k : Nat) : (List.replicate (k + 1) (0 : Int)).set 0 1 = chRow k 0 k := by
  apply List.ext_getElem
  · simp [chRow]
  · intro x h1 h2
    simp [chRow] at h2 ⊢
    rw [List.getElem_set]
    by_cases e : 0 = x
    · subst e; simp [chs_zero]
    · rw [if_neg e, if_neg (by omega), List.getElem_replicate, chs_lt 0 x (by omega)]; rfl
theorem chRow_step (k i j : Nat) (h : j + 1 ≤ k) : (chRow k i (j + 1)).set (j + 1) ((chs i (j + 1) : Nat) + (chs i j : Nat) : Int) = chRow k i j := by
  apply List.ext_getElem
  · simp [chRow]
  · intro x h1 h2
    simp [chRow] at h2 ⊢
    rw [List.getElem_set]
    by_cases e : j + 1 = x
    · subst e
      rw [if_pos rfl, if_pos (by omega), chs_succ]
      omega
    · rw [if_neg e, List.getElem_map, List.getElem_range]
      by_cases c : j + 1 < x
      · rw [if_pos c, if_pos (by omega)]
      · rw [if_neg c, if_neg (by omega)]
theorem chRow_next (k i : Nat) : chRow k i 0 = chRow k (i + 1) k := by
  apply List.ext_getElem
  · simp [chRow]
  · intro x h1 h2
    simp [chRow] at h2 ⊢
    rw [if_neg (show ¬ k < x by omega)]
    by_cases c : 0 < x
    · rw [if_pos c]
    · have : x = 0 := by omega
      subst this
      simp [chs_zero]
theorem chRow_cut (k i : Nat) : chRow k i k = chRow k i (min (i + 1) k) := by
  apply List.ext_getElem
  · simp [chRow]
  · intro x h1 h2
    simp [chRow] at h2 ⊢
    rw [if_neg (show ¬ k < x by omega)]
    by_cases c : min (i + 1) k < x
    · rw [if_pos c, chs_lt i x (by omega), chs_lt (i + 1) x (by omega)]
    · rw [if_neg c]
theorem countW_ret (u d : Int) (w : World) : Calls Try.prog 94 #[.int .i64 u, .int .i64 d] w (Ret w (.tuple #[.int .i64 (cntV u d), .bool (cntOk u d)])) :=
  (count_ret u d w).mono fun _ _ ⟨h1, h2⟩ => ⟨h1, h2 ▸ Below.refl _ _⟩
end Go.Proofs.Ytfimcadnlhohlaa
