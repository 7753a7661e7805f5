/- FnExactColumnsOf for every argument. -/
import Derived.Test.YtnlcainfkchieaaLFnExactColumnsOf
import Derived.Test.YtnlcainfkchieaaColS
namespace Go.Proofs.Ytnlcainfkchieaa
open Go.RowKit
set_option linter.unusedVariables false
theorem wFnExactColumnsOf (a : Option Addr) (len cap : Nat) (zs : List Int) (w : World) (h0 : IsInts w a len cap zs) :
    Calls Try.prog 10 #[.slice a len cap] w fun e w' => e = .returned (.bool true) ∧ Below w.heap.size w w' := by
  by_cases hb : 1048576 < len
  · exact wFnExactColumnsOf_big a len cap w hb
  · have hl : (zs.take len).length ≤ 1048576 := by rw [List.length_take]; omega
    exact wFnExactColumnsOf_main _ (zs.take len) (clOk (zs.take len)) (clV (zs.take len)) ((Nat.le_trans (clV_len (zs.take len)) (by omega))) (Lib.hid fun v w h => specColumnsOf_ret v (zs.take len) w h hl) (Lib.hid fun v w h => columnsOf_ret v (zs.take len) w h hl) w (RInts.of_in h0) hl
end Go.Proofs.Ytnlcainfkchieaa
