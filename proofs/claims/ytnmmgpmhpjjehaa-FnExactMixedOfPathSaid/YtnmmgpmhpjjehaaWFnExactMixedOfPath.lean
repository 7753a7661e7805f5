/- FnExactMixedOfPath for every argument. -/
import Derived.Test.YtnmmgpmhpjjehaaLFnExactMixedOfPath
import Derived.Test.YtnmmgpmhpjjehaaPkI
namespace Go.Proofs.Ytnmmgpmhpjjehaa
open Go.RowKit
set_option linter.unusedVariables false
theorem wFnExactMixedOfPath (a0 : ByteArray) (w : World) (hs0 : a0.size ≤ maxLen) :
    Calls Try.prog 19 #[.string a0] w fun e w' => e = .returned (.bool true) ∧ Below w.heap.size w w' := by
  by_cases hz : 1048576 < a0.size
  · exact wFnExactMixedOfPath_big a0 w hz
  · have hz0 : ¬ 1048576 < a0.size := by omega
    exact wFnExactMixedOfPath_main a0 (moOk a0) (moV a0) (Lib.hid fun w => mopS_ret a0 w hs0) (Lib.hid fun w => mixedOfPath_ret a0 w hs0) w hz0
end Go.Proofs.Ytnmmgpmhpjjehaa
