/- FnExactFirstForest for every argument. -/
import Derived.Test.YtgajknnfmnnfeaaLFnExactFirstForest
import Derived.Test.YtgajknnfmnnfeaaFirstI
import Derived.Test.YtgajknnfmnnfeaaFirstS
namespace Go.Proofs.Ytgajknnfmnnfeaa
open Go.RowKit
set_option linter.unusedVariables false
theorem wFnExactFirstForest (a : Option Addr) (len cap : Nat) (zs : List Int) (w : World) (h0 : IsInts w a len cap zs) :
    Calls Try.prog 15 #[.slice a len cap] w fun e w' => e = .returned (.bool true) ∧ Below w.heap.size w w' := by
  by_cases hb : 1048576 < len
  · exact wFnExactFirstForest_big a len cap w hb
  · have hl : (zs.take len).length ≤ 1048576 := by rw [List.length_take]; omega
    exact wFnExactFirstForest_main _ (zs.take len) (ffOk (zs.take len)) (ffV (zs.take len)) (ffV_len (zs.take len)) (Lib.hid fun v w h => specFirstForest_ret v (zs.take len) w h hl) (Lib.hid fun v w h => firstForest_ret v (zs.take len) w h hl) w (RInts.of_in h0) hl
end Go.Proofs.Ytgajknnfmnnfeaa
