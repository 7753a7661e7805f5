/- FnExactTreesOf for every argument. -/
import Derived.Test.YtgajknnfmnnfeaaLFnExactTreesOf
import Derived.Test.YtgajknnfmnnfeaaTreesS
import Derived.Test.YtgajknnfmnnfeaaTreesI2
namespace Go.Proofs.Ytgajknnfmnnfeaa
open Go.RowKit
set_option linter.unusedVariables false
theorem wFnExactTreesOf (a : Option Addr) (len cap : Nat) (zs : List Int) (w : World) (h0 : IsInts w a len cap zs) :
    Calls Try.prog 8 #[.slice a len cap] w fun e w' => e = .returned (.bool true) ∧ Below w.heap.size w w' := by
  by_cases hb : 1048576 < len
  · exact wFnExactTreesOf_big a len cap w hb
  · have hl : (zs.take len).length ≤ 1048576 := by rw [List.length_take]; omega
    exact wFnExactTreesOf_main _ (zs.take len) (forV (zs.take len)) (trsV (zs.take len)) (trsV_len (zs.take len) hl) (trsV_flat (zs.take len) hl) (Lib.hid fun v w h => specTreesOf_ret v (zs.take len) w h hl) (Lib.hid fun v w h => treesOf_ret v (zs.take len) w h hl) w (RInts.of_in h0) hl
end Go.Proofs.Ytgajknnfmnnfeaa
