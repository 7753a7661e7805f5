/- FnExactIsForest for every argument. -/
import Derived.Test.YtgajknnfmnnfeaaLFnExactIsForest
import Derived.Test.YtgajknnfmnnfeaaDeg
import Derived.Test.YtgajknnfmnnfeaaDegI
namespace Go.Proofs.Ytgajknnfmnnfeaa
open Go.RowKit
set_option linter.unusedVariables false
theorem wFnExactIsForest (a : Option Addr) (len cap : Nat) (zs : List Int) (w : World) (h0 : IsInts w a len cap zs) :
    Calls Try.prog 5 #[.slice a len cap] w fun e w' => e = .returned (.bool true) ∧ Below w.heap.size w w' := by
  by_cases hb : 1048576 < len
  · exact wFnExactIsForest_big a len cap w hb
  · have hl : (zs.take len).length ≤ 1048576 := by rw [List.length_take]; omega
    exact wFnExactIsForest_main _ (zs.take len) (degB (zs.take len)) (forV (zs.take len)) (Lib.hid fun v w h => specIsForest_ret v (zs.take len) w h hl) (Lib.hid fun v w h => isForest_ret v (zs.take len) w h hl) w (RInts.of_in h0) hl
end Go.Proofs.Ytgajknnfmnnfeaa
