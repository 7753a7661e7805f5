/- FnExactRotateList for every argument. -/
import Derived.Test.YtgajknnfmnnfeaaLFnExactRotateList
import Derived.Test.YtgajknnfmnnfeaaRot
import Derived.Test.YtgajknnfmnnfeaaRotI
namespace Go.Proofs.Ytgajknnfmnnfeaa
open Go.RowKit
set_option linter.unusedVariables false
theorem wFnExactRotateList (a : Option Addr) (len cap : Nat) (zs : List Int) (a1 : Int) (w : World) (h0 : IsInts w a len cap zs) (hs1 : (Lit.int .i64 a1).wf = true) :
    Calls Try.prog 7 #[.slice a len cap, .int .i64 a1] w fun e w' => e = .returned (.bool true) ∧ Below w.heap.size w w' := by
  by_cases hb : 1048576 < len
  · exact wFnExactRotateList_big a len cap a1 w hb
  · have hl : (zs.take len).length ≤ 1048576 := by rw [List.length_take]; omega
    exact wFnExactRotateList_main _ (zs.take len) a1 (rotOk (zs.take len) a1) (rotV (zs.take len) a1) (rotV_len (zs.take len) a1 hl) (Lib.hid fun v w h => specRotateList_ret v (zs.take len) a1 w h hl) (Lib.hid fun v w h => rotateList_ret v (zs.take len) a1 w h hl) w (RInts.of_in h0) hl
end Go.Proofs.Ytgajknnfmnnfeaa
