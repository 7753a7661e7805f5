/- Pack 36 of what FnExactAllPairsApart needs: WFnExactAllPairsApart. -/
import Derived.Test.YtnlmjeakdjmohaaKFnExactAllPairsApart35
/- FnExactAllPairsApart for every argument. -/
namespace Go.Proofs.Ytnlmjeakdjmohaa
open Go.RowKit
set_option linter.unusedVariables false
theorem wFnExactAllPairsApart (a0 a1 b0 b1 c0 c1 d0 d1 : Int) (w : World) (hs0 : True) (hs1 : True) (hs2 : True) (hs3 : True) :
    Calls Try.prog 4 #[.agg #[.int .i64 a0, .int .i64 a1], .agg #[.int .i64 b0, .int .i64 b1], .agg #[.int .i64 c0, .int .i64 c1], .agg #[.int .i64 d0, .int .i64 d1]] w fun e w' => e = .returned (.bool true) ∧ Below w.heap.size w w' :=
  wFnExactAllPairsApart_main a0 a1 b0 b1 c0 c1 d0 d1 (apaOk a0 a1 b0 b1 c0 c1 d0 d1) (apaV a0 a1 b0 b1 c0 c1 d0 d1) (apaV_len a0 a1 b0 b1 c0 c1 d0 d1) (apaV_twos a0 a1 b0 b1 c0 c1 d0 d1)
    (Lib.hid fun w => specAllPairsApart_ret a0 a1 b0 b1 c0 c1 d0 d1 w) (Lib.hid fun w => allPairsApartI_ret a0 a1 b0 b1 c0 c1 d0 d1 w) w
end Go.Proofs.Ytnlmjeakdjmohaa
