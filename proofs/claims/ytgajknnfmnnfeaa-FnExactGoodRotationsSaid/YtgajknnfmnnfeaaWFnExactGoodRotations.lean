/- FnExactGoodRotations for every argument. -/
import Derived.Test.YtgajknnfmnnfeaaLFnExactGoodRotations
import Derived.Test.YtgajknnfmnnfeaaGoodRot
import Derived.Test.YtgajknnfmnnfeaaGoodRotI
namespace Go.Proofs.Ytgajknnfmnnfeaa
open Go.RowKit
set_option linter.unusedVariables false
theorem wFnExactGoodRotations (a : Option Addr) (len cap : Nat) (zs : List Int) (w : World) (h0 : IsInts w a len cap zs) :
    Calls Try.prog 6 #[.slice a len cap] w fun e w' => e = .returned (.bool true) ∧ Below w.heap.size w w' := by
  by_cases hb : 1048576 < len
  · exact wFnExactGoodRotations_big a len cap w hb
  · have hl : (zs.take len).length ≤ 1048576 := by rw [List.length_take]; omega
    exact wFnExactGoodRotations_main _ (zs.take len) (degB (zs.take len)) (goodV (zs.take len)) (goodV_len (zs.take len) hl) (Lib.hid fun v w h => specGoodRotations_ret v (zs.take len) w h hl) (Lib.hid fun v w h => goodRotations_ret v (zs.take len) w h hl) w (RInts.of_in h0) hl
end Go.Proofs.Ytgajknnfmnnfeaa
