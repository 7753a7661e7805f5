/- FnExactPathOfMixed for every argument. -/
import Derived.Test.YtnmmgpmhpjjehaaLFnExactPathOfMixed
import Derived.Test.YtnmmgpmhpjjehaaPkI
namespace Go.Proofs.Ytnmmgpmhpjjehaa
open Go.RowKit
set_option linter.unusedVariables false
theorem wFnExactPathOfMixed (a0 : ByteArray) (w : World) (hs0 : a0.size ≤ maxLen) :
    Calls Try.prog 18 #[.string a0] w fun e w' => e = .returned (.bool true) ∧ Below w.heap.size w w' := by
  by_cases hz : 1048576 < a0.size
  · exact wFnExactPathOfMixed_big a0 w hz
  · have hz0 : ¬ 1048576 < a0.size := by omega
    exact wFnExactPathOfMixed_main a0 (mixB a0) (pmV a0) (Lib.hid fun w => pomS_ret a0 w hs0) (Lib.hid fun w => pathOfMixed_ret a0 w hs0) w hz0
end Go.Proofs.Ytnmmgpmhpjjehaa
