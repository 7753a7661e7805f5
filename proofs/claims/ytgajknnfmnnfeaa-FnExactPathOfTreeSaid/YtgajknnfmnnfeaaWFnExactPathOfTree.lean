/- FnExactPathOfTree for every argument. -/
import Derived.Test.YtgajknnfmnnfeaaLFnExactPathOfTree
import Derived.Test.YtgajknnfmnnfeaaPathT
import Derived.Test.YtgajknnfmnnfeaaPathS
namespace Go.Proofs.Ytgajknnfmnnfeaa
open Go.RowKit
set_option linter.unusedVariables false
theorem wFnExactPathOfTree (a : Option Addr) (len cap : Nat) (zs : List Int) (w : World) (h0 : IsInts w a len cap zs) :
    Calls Try.prog 12 #[.slice a len cap] w fun e w' => e = .returned (.bool true) ∧ Below w.heap.size w w' := by
  by_cases hb : 1048576 < len
  · exact wFnExactPathOfTree_big a len cap w hb
  · have hl : (zs.take len).length ≤ 1048576 := by rw [List.length_take]; omega
    exact wFnExactPathOfTree_main _ (zs.take len) (treeB (zs.take len)) (ptV (zs.take len)) (Lib.hid fun v w h => specPathOfTree_ret v (zs.take len) w h hl) (Lib.hid fun v w h => pathOfTree_ret v (zs.take len) w h hl) w (RInts.of_in h0) hl
end Go.Proofs.Ytgajknnfmnnfeaa
