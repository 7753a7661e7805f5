/- FnExactMirrorForest for every argument. -/
import Derived.Test.YtgajknnfmnnfeaaLFnExactMirrorForest
import Derived.Test.YtgajknnfmnnfeaaMirJ
import Derived.Test.YtgajknnfmnnfeaaMirS
namespace Go.Proofs.Ytgajknnfmnnfeaa
open Go.RowKit
set_option linter.unusedVariables false
theorem wFnExactMirrorForest (a : Option Addr) (len cap : Nat) (zs : List Int) (w : World) (h0 : IsInts w a len cap zs) :
    Calls Try.prog 11 #[.slice a len cap] w fun e w' => e = .returned (.bool true) ∧ Below w.heap.size w w' := by
  by_cases hb : 1048576 < len
  · exact wFnExactMirrorForest_big a len cap w hb
  · have hl : (zs.take len).length ≤ 1048576 := by rw [List.length_take]; omega
    exact wFnExactMirrorForest_main _ (zs.take len) (forV (zs.take len)) (mirV (zs.take len)) (mirV_len (zs.take len) hl) (Lib.hid fun v w h => specMirrorForest_ret v (zs.take len) w h hl) (Lib.hid fun v w h => mirrorForest_ret v (zs.take len) w h hl) w (RInts.of_in h0) hl
end Go.Proofs.Ytgajknnfmnnfeaa
