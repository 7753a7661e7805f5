/- The model's miCount, CountBetween. -/
import Derived.Test.YtnlmjeakdjmohaaBetS
namespace Go.Proofs.Ytnlmjeakdjmohaa
open Go.RowKit
set_option linter.unusedVariables false
theorem two_bd (K W : Int) (hK : -40 ≤ K ∧ K ≤ 40) (hW : -202 ≤ W ∧ W ≤ 202) : -16160 ≤ 2 * K * W ∧ 2 * K * W ≤ 16160 := by
  have h1 : (K * W).natAbs ≤ 40 * 202 := by rw [Int.natAbs_mul]; exact Nat.mul_le_mul (by omega) (by omega)
  rw [Int.mul_assoc]
  omega
def cbOk (a b lo hi : Int) : Bool := cntOk a b && walB lo hi
def cbV (a b lo hi : Int) : Int := if cbOk a b lo hi = true then btZ (a + b) (a - b) lo hi else 0
theorem walB_of {l h : Int} (q : walB l h = true) : (-40 ≤ l ∧ l ≤ 0) ∧ (0 ≤ h ∧ h ≤ 40) := by
  unfold walB at q
  rw [Bool.and_eq_true] at q
  exact ⟨inB_of q.1, inB_of q.2⟩
end Go.Proofs.Ytnlmjeakdjmohaa
