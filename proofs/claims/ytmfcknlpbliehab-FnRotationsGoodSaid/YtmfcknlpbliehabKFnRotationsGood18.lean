/- Pack 18 of what FnRotationsGood needs: CountFor, CountForI. -/
import Derived.Test.YtmfcknlpbliehabKFnRotationsGood17
/- CountForests. -/
namespace Go.Proofs.Ytmfcknlpbliehab
open Go.RowKit
set_option linter.unusedVariables false
theorem cfV_no {xs : List Int} (h : ctOk xs = false) : cfV xs = 0 := by unfold cfV; rw [h]; rfl
theorem cfV_low {xs : List Int} (h : ctOk xs = true) (h1 : exc (cntL xs) < 1) : cfV xs = 0 := by unfold cfV; rw [h, if_pos rfl, if_pos h1]
theorem cfV_yes {xs : List Int} (h : ctOk xs = true) (h1 : ¬ exc (cntL xs) < 1) : cfV xs = (ordN xs : Int) * exc (cntL xs) / ((cntL xs).length : Int) := by unfold cfV; rw [h, if_pos rfl, if_neg h1]
theorem ctV_yes {xs : List Int} (h : ctOk xs = true) : ctV xs = cntL xs := by unfold ctV; rw [h]; rfl
theorem exc_bd {xs : List Int} (h : degB xs = true) : -240 ≤ exc xs ∧ exc xs ≤ 16 := by
  have hn := (degB_of h).1
  have hb := sumT_bd h xs.length (Nat.le_refl _)
  unfold exc
  omega
end Go.Proofs.Ytmfcknlpbliehab

/- nodesOf, the program's CountForests. -/
namespace Go.Proofs.Ytmfcknlpbliehab
open Go.RowKit
set_option linter.unusedVariables false
theorem exc_eq (L : List Int) : exc L = (L.length : Int) - L.sum := by unfold exc sumT; rw [List.take_length]
theorem sum_rep (d : Int) : ∀ n, (List.replicate n d).sum = (n : Int) * d
  | 0 => by simp
  | n + 1 => by rw [List.replicate_succ, List.sum_cons, sum_rep d n, Int.natCast_succ, Int.add_mul, Int.one_mul, Int.add_comm]
theorem exc_rep (L : List Int) (n : Nat) (d : Int) : exc (L ++ List.replicate n d) = exc L + (n : Int) * (1 - d) := by
  rw [exc_eq, exc_eq, List.length_append, List.sum_append, List.length_replicate, sum_rep, Int.mul_sub, Int.mul_one]
  omega
theorem exc_cts (xs : List Int) (k : Nat) : exc (cts xs (k + 1)) = exc (cts xs k) + ((xs.getD k 0).toNat : Int) * (1 - (k : Int)) := by rw [cts, exc_rep]
theorem ctOk_bad {xs : List Int} {k : Nat} (hk : k < xs.length) (h : xs.getD k 0 < 0 ∨ 16 - ((cts xs k).length : Int) < xs.getD k 0) : ctOk xs = false := by
  by_cases hb : 0 ≤ xs.getD k 0 ∧ xs.getD k 0 ≤ 16
  · refine ctOk_long (k := k + 1) (by omega) ?_
    rw [cts_len]
    omega
  · have : allB xs 0 16 = false := allB_no hk (by unfold inBd; rw [Bool.and_eq_false_iff, decide_eq_false_iff_not, decide_eq_false_iff_not]; omega)
    unfold ctOk ctB
    rw [this, Bool.and_false, Bool.false_and]
theorem ctOk_end {xs : List Int} (h17 : xs.length ≤ 17) (h : ∀ j, j < xs.length → 0 ≤ xs.getD j 0 ∧ xs.getD j 0 ≤ 16) (h16 : (cts xs xs.length).length ≤ 16) : ctOk xs = decide (0 < (cts xs xs.length).length) := by
  have ha : allB xs 0 16 = true := by
    unfold allB inBd
    rw [List.all_eq_true]
    intro x hx
    obtain ⟨i, hi, rfl⟩ := List.mem_iff_getElem.1 hx
    have := h i hi
    rw [List.getD_eq_getElem?_getD, List.getElem?_eq_getElem hi] at this
    simpa using this
  unfold ctOk ctB cntL
  rw [ha, decide_eq_true h17, decide_eq_true h16, Bool.true_and, Bool.true_and, Bool.true_and]
/-- what nodesOf hands back -/
def Nodes (xs : List Int) (w : World) (e : Ending) (w' : World) : Prop :=
  ∃ N E : Int, e = .returned (.tuple #[.int .i64 N, .int .i64 E, .bool (ctOk xs)]) ∧ (ctOk xs = true → N = ((cntL xs).length : Nat) ∧ E = exc (cntL xs)) ∧ w = w'
end Go.Proofs.Ytmfcknlpbliehab
