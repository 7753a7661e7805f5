/- Pack 31 of what FnBoldPlay needs: Counts, Choose. -/
import Derived.Test.YthgblfldncidnaaKFnBoldPlay30
/- CountPaths; paChoose, the numbers of ways to choose. -/
namespace Go.Proofs.Ythgblfldncidnaa
open Go.RowKit
theorem cntOk_yes {u d : Int} (h : 0 ≤ u ∧ 0 ≤ d ∧ u + d ≤ 40) : cntOk u d = true := by simp [cntOk, h]
theorem cntOk_no {u d : Int} (h : ¬ (0 ≤ u ∧ 0 ≤ d ∧ u + d ≤ 40)) : cntOk u d = false := by
  rw [Bool.eq_false_iff]
  intro e
  simp [cntOk] at e
  exact h ⟨e.1.1, e.1.2, e.2⟩
theorem cntV_yes {u d : Nat} (h : u + d ≤ 40) : cntV u d = (chs (d + u) u : Nat) := by
  unfold cntV
  rw [cntOk_yes (by omega), if_pos rfl]
  have := chZ_nat (u + d) u
  rw [Nat.add_comm d u, ← this]
  rfl
theorem cntV_no {u d : Int} (h : ¬ (0 ≤ u ∧ 0 ≤ d ∧ u + d ≤ 40)) : cntV u d = 0 := by unfold cntV; rw [cntOk_no h]; rfl
end Go.Proofs.Ythgblfldncidnaa

/- paChoose, paSteps, spec.CountPaths. -/
namespace Go.Proofs.Ythgblfldncidnaa
set_option maxRecDepth 100000
open Go.RowKit
/-- the row of the numbers for i, entries from j on already those for i + 1 -/
def chRow (k i j : Nat) : List Int := (List.range (k + 1)).map fun x => ((if j < x then chs (i + 1) x else chs i x : Nat) : Int)
theorem chRow_length (k i j : Nat) : (chRow k i j).length = k + 1 := by simp [chRow]
theorem chRow_get (k i j x : Nat) (h : x ≤ k) : (chRow k i j).getD x 0 = ((if j < x then chs (i + 1) x else chs i x : Nat) : Int) := by
  unfold chRow; rw [List.getD_eq_getElem?_getD, List.getElem?_map, List.getElem?_range (by omega)]; rfl
theorem chRow_start (k : Nat) : (List.replicate (k + 1) (0 : Int)).set 0 1 = chRow k 0 k := by
  apply List.ext_getElem
  · simp [chRow]
  · intro x h1 h2
    simp [chRow] at h2 ⊢
    rw [List.getElem_set]
    by_cases e : 0 = x
    · subst e; simp [chs_zero]
    · rw [if_neg e, if_neg (by omega), List.getElem_replicate, chs_lt 0 x (by omega)]; rfl
theorem chRow_step (k i j : Nat) (h : j + 1 ≤ k) : (chRow k i (j + 1)).set (j + 1) ((chs i (j + 1) : Nat) + (chs i j : Nat) : Int) = chRow k i j := by
  apply List.ext_getElem
  · simp [chRow]
  · intro x h1 h2
    simp [chRow] at h2 ⊢
    rw [List.getElem_set]
    by_cases e : j + 1 = x
    · subst e
      rw [if_pos rfl, if_pos (by omega), chs_succ]
      omega
    · rw [if_neg e, List.getElem_map, List.getElem_range]
      by_cases c : j + 1 < x
      · rw [if_pos c, if_pos (by omega)]
      · rw [if_neg c, if_neg (by omega)]
theorem chRow_next (k i : Nat) : chRow k i 0 = chRow k (i + 1) k := by
  apply List.ext_getElem
  · simp [chRow]
  · intro x h1 h2
    simp [chRow] at h2 ⊢
    rw [if_neg (show ¬ k < x by omega)]
    by_cases c : 0 < x
    · rw [if_pos c]
    · have : x = 0 := by omega
      subst this
      simp [chs_zero]
theorem chRow_cut (k i : Nat) : chRow k i k = chRow k i (min (i + 1) k) := by
  apply List.ext_getElem
  · simp [chRow]
  · intro x h1 h2
    simp [chRow] at h2 ⊢
    rw [if_neg (show ¬ k < x by omega)]
    by_cases c : min (i + 1) k < x
    · rw [if_pos c, chs_lt i x (by omega), chs_lt (i + 1) x (by omega)]
    · rw [if_neg c]
end Go.Proofs.Ythgblfldncidnaa
