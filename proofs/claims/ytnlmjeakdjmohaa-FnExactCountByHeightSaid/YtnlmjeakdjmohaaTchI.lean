/- The program's counts by reflections at one height: countTouching, CountTouching, CountAbove, CountHighest, CountFirstPassage. -/
import Derived.Test.YtnlmjeakdjmohaaToI
import Derived.Test.YtnlmjeakdjmohaaHoldI
import Derived.Test.YtnlmjeakdjmohaaBetS
namespace Go.Proofs.Ytnlmjeakdjmohaa
open Go.RowKit
set_option linter.unusedVariables false
theorem cntV_toZ {a b : Int} (h : 0 ≤ a ∧ 0 ≤ b ∧ a + b ≤ 40) : cntV a b = toZ (a + b) (a - b) := by
  have e := toZ_cntV (n := a + b) (h := a - b) (by omega) (by omega) (by omega)
  rw [show a + b + (a - b) = 2 * a by omega, show a + b - (a - b) = 2 * b by omega, Int.mul_tdiv_cancel_left _ (by omega), Int.mul_tdiv_cancel_left _ (by omega)] at e
  exact e
end Go.Proofs.Ytnlmjeakdjmohaa
