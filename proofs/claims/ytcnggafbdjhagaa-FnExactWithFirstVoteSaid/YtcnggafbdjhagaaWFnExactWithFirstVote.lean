/- FnExactWithFirstVote for every argument. -/
import Derived.Test.YtcnggafbdjhagaaLFnExactWithFirstVote
import Derived.Test.YtcnggafbdjhagaaJoinS
namespace Go.Proofs.Ytcnggafbdjhagaa
open Go.RowKit
set_option linter.unusedVariables false
theorem wFnExactWithFirstVote (a0 : ByteArray) (w : World) (hs0 : a0.size ≤ maxLen) :
    Calls Try.prog 18 #[.string a0] w fun e w' => e = .returned (.bool true) ∧ Below w.heap.size w w' := by
  by_cases hz : 1048576 < a0.size
  · exact wFnExactWithFirstVote_big a0 w hz
  · have hz0 : ¬ 1048576 < a0.size := by omega
    exact wFnExactWithFirstVote_main a0 (fvOk a0) (fvV a0) (Lib.hid fun w => specWithFirst_ret a0 w hs0) (Lib.hid fun w => withFirst_ret a0 w hs0) w hz0
end Go.Proofs.Ytcnggafbdjhagaa
