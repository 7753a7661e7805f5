/- FnExactAllTrees for every argument. -/
import Derived.Test.YtgajknnfmnnfeaaLFnExactAllTrees
import Derived.Test.YtgajknnfmnnfeaaAllJ
namespace Go.Proofs.Ytgajknnfmnnfeaa
open Go.RowKit
set_option linter.unusedVariables false
theorem wFnExactAllTrees (a0 : Int) (w : World) (hs0 : (Lit.int .i64 a0).wf = true) :
    Calls Try.prog 16 #[.int .i64 a0] w fun e w' => e = .returned (.bool true) ∧ Below w.heap.size w w' := by
  exact wFnExactAllTrees_main a0 (allOk a0) (allV a0) (allV_len a0) (allV_flat a0) (Lib.hid fun w => specAllTrees_ret a0 w) (Lib.hid fun w => allTrees_ret a0 w) w
end Go.Proofs.Ytgajknnfmnnfeaa
