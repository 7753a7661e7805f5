/- Pack 27 of what FnPathsReflected needs: DegMath, Deg. -/
import Derived.Test.YtachijliaedndaaKFnPathsReflected26
/- Degrees, their excess, forests, rotations: plain lists. -/
namespace Go.Proofs.Ytachijliaedndaa
open Go.RowKit
def inBd (lo hi x : Int) : Bool := decide (lo ≤ x) && decide (x ≤ hi)
def allB (xs : List Int) (lo hi : Int) : Bool := xs.all (inBd lo hi)
def degB (xs : List Int) : Bool := inBd 1 16 (xs.length : Nat) && allB xs 0 16
theorem allB_take {xs : List Int} {lo hi : Int} {k : Nat} (h : allB (xs.take k) lo hi = true) (hk : k < xs.length) : allB (xs.take (k + 1)) lo hi = inBd lo hi (xs.getD k 0) := by
  unfold allB at *
  rw [List.take_succ_eq_append_getElem hk, List.all_append, h, Bool.true_and, List.getD_eq_getElem?_getD, List.getElem?_eq_getElem hk]
  simp
theorem allB_no {xs : List Int} {lo hi : Int} {k : Nat} (hk : k < xs.length) (h : inBd lo hi (xs.getD k 0) = false) : allB xs lo hi = false := by
  rw [Bool.eq_false_iff]
  intro e
  unfold allB at e
  rw [List.all_eq_true] at e
  have := e (xs.getD k 0) (by rw [List.getD_eq_getElem?_getD, List.getElem?_eq_getElem hk]; exact List.getElem_mem hk)
  rw [this] at h
  cases h
theorem degB_of {xs : List Int} (h : degB xs = true) : (1 ≤ xs.length ∧ xs.length ≤ 16) ∧ ∀ k, k < xs.length → 0 ≤ xs.getD k 0 ∧ xs.getD k 0 ≤ 16 := by
  unfold degB allB inBd at h
  rw [Bool.and_eq_true, List.all_eq_true] at h
  obtain ⟨h1, h2⟩ := h
  simp at h1
  refine ⟨by omega, fun k hk => ?_⟩
  have := h2 (xs.getD k 0) (by rw [List.getD_eq_getElem?_getD, List.getElem?_eq_getElem hk]; exact List.getElem_mem hk)
  simpa using this
theorem take_sum (xs : List Int) (k : Nat) (h : k < xs.length) : (xs.take (k + 1)).sum = (xs.take k).sum + xs.getD k 0 := by
  rw [List.take_succ_eq_append_getElem h, List.sum_append, List.getD_eq_getElem?_getD, List.getElem?_eq_getElem h]
  simp
/-- the sum of the first k degrees -/
def sumT (xs : List Int) (k : Nat) : Int := (xs.take k).sum
theorem sumT_0 (xs : List Int) : sumT xs 0 = 0 := by simp [sumT]
theorem sumT_succ (xs : List Int) (k : Nat) (h : k < xs.length) : sumT xs (k + 1) = sumT xs k + xs.getD k 0 := take_sum xs k h
theorem sumT_bd {xs : List Int} (h : degB xs = true) : ∀ k, k ≤ xs.length → 0 ≤ sumT xs k ∧ sumT xs k ≤ 16 * k
  | 0, _ => by rw [sumT_0]; omega
  | k + 1, hk => by
    have h1 := sumT_bd h k (by omega)
    have h2 := (degB_of h).2 k (by omega)
    rw [sumT_succ xs k (by omega)]
    omega
def exc (xs : List Int) : Int := (xs.length : Int) - sumT xs xs.length
/-- no beginning of less than k falls too low -/
def upB (xs : List Int) (r : Int) : Nat → Bool
  | 0 => true
  | k + 1 => upB xs r k && !(decide (sumT xs (k + 1) - ((k + 1 : Nat) : Int) ≤ -r) && decide (k + 1 < xs.length))
def forB (xs : List Int) : Bool := decide (1 ≤ exc xs) && upB xs (exc xs) xs.length
theorem upB_no {xs : List Int} {r : Int} {k : Nat} (h : sumT xs (k + 1) - ((k + 1 : Nat) : Int) ≤ -r) (hk : k + 1 < xs.length) : ∀ m, upB xs r (k + 1 + m) = false
  | 0 => by rw [Nat.add_zero, upB, decide_eq_true h, decide_eq_true hk]; simp
  | m + 1 => by rw [← Nat.add_assoc, upB, upB_no h hk m]; simp
theorem upB_step {xs : List Int} {r : Int} {k : Nat} (h : upB xs r k = true) (hn : ¬ (sumT xs (k + 1) - ((k + 1 : Nat) : Int) ≤ -r ∧ k + 1 < xs.length)) : upB xs r (k + 1) = true := by
  rw [upB, h, Bool.true_and, Bool.not_eq_true', Bool.and_eq_false_iff, decide_eq_false_iff_not, decide_eq_false_iff_not]
  omega
theorem forB_low {xs : List Int} (h : exc xs < 1) : forB xs = false := by unfold forB; rw [decide_eq_false (by omega)]; rfl
theorem forB_no {xs : List Int} {k : Nat} (h : sumT xs (k + 1) - ((k + 1 : Nat) : Int) ≤ -exc xs) (hk : k + 1 < xs.length) : forB xs = false := by
  have := upB_no h hk (xs.length - (k + 1))
  rw [show k + 1 + (xs.length - (k + 1)) = xs.length by omega] at this
  unfold forB
  rw [this, Bool.and_false]
theorem forB_yes {xs : List Int} (h1 : 1 ≤ exc xs) (h : upB xs (exc xs) xs.length = true) : forB xs = true := by
  unfold forB; rw [decide_eq_true h1, h]; rfl
def rot (xs : List Int) (k : Nat) : List Int := xs.drop k ++ xs.take k
theorem rot_length (xs : List Int) (k : Nat) (h : k ≤ xs.length) : (rot xs k).length = xs.length := by
  unfold rot; rw [List.length_append, List.length_drop, List.length_take]; omega
end Go.Proofs.Ytachijliaedndaa

/- l1All, cyGood, IsDegrees, cyExcess, cyForest. -/
namespace Go.Proofs.Ytachijliaedndaa
open Go.RowKit
set_option linter.unusedVariables false
def excV (xs : List Int) : Int := if degB xs then exc xs else 0
def forV (xs : List Int) : Bool := degB xs && forB xs
end Go.Proofs.Ytachijliaedndaa
