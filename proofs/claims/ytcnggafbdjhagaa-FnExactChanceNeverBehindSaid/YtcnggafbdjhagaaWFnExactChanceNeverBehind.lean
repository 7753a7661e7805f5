/- FnExactChanceNeverBehind for every argument. -/
import Derived.Test.YtcnggafbdjhagaaLFnExactChanceNeverBehind
import Derived.Test.YtcnggafbdjhagaaChance
namespace Go.Proofs.Ytcnggafbdjhagaa
open Go.RowKit
set_option linter.unusedVariables false
theorem wFnExactChanceNeverBehind (a0 : Int) (a1 : Int) (a2 : Int) (w : World) (hs0 : (Lit.int .i64 a0).wf = true) (hs1 : (Lit.int .i64 a1).wf = true) (hs2 : (Lit.int .i64 a2).wf = true) :
    Calls Try.prog 11 #[.int .i64 a0, .int .i64 a1, .int .i64 a2] w fun e w' => e = .returned (.bool true) ∧ Below w.heap.size w w' := by
  exact wFnExactChanceNeverBehind_main a0 a1 a2 (allOk a0 a1 a2) (chanceP (neverV a0 a1 a2) a0 a1 a2) (chanceQ (neverV a0 a1 a2) a0 a1 a2) (Lib.hid fun w => specChanceNeverBehind_ret a0 a1 a2 w) (Lib.hid fun w => chanceNeverBehind_ret a0 a1 a2 w) w 
end Go.Proofs.Ytcnggafbdjhagaa
