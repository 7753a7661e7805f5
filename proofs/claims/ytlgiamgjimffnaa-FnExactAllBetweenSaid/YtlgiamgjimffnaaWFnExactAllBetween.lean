/- FnExactAllBetween for every argument. -/
import Derived.Test.YtlgiamgjimffnaaLFnExactAllBetween
import Derived.Test.YtlgiamgjimffnaaAbJ
namespace Go.Proofs.Ytlgiamgjimffnaa
open Go.RowKit
set_option linter.unusedVariables false
theorem wFnExactAllBetween (a0 : Int) (a1 : Int) (a2 : Int) (a3 : Int) (w : World) (hs0 : (Lit.int .i64 a0).wf = true) (hs1 : (Lit.int .i64 a1).wf = true) (hs2 : (Lit.int .i64 a2).wf = true) (hs3 : (Lit.int .i64 a3).wf = true) :
    Calls Try.prog 19 #[.int .i64 a0, .int .i64 a1, .int .i64 a2, .int .i64 a3] w fun e w' => e = .returned (.bool true) ∧ Below w.heap.size w w' := by
  exact wFnExactAllBetween_main a0 a1 a2 a3 (abOk a0 a1 a2 a3) (abV a0 a1 a2 a3) (abV_len a0 a1 a2 a3) (Lib.hid fun w => specAllBetween_ret a0 a1 a2 a3 w) (Lib.hid fun w => allBetween_ret a0 a1 a2 a3 w) w 
end Go.Proofs.Ytlgiamgjimffnaa
