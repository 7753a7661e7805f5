/- Pack 33 of what FnExactAllOrdered needs: WFnExactAllOrdered. -/
import Derived.Test.YtnlcainfkchieaaKFnExactAllOrdered32
/- FnExactAllOrdered for every argument. -/
namespace Go.Proofs.Ytnlcainfkchieaa
open Go.RowKit
set_option linter.unusedVariables false
theorem wFnExactAllOrdered (a : Option Addr) (len cap : Nat) (zs : List Int) (w : World) (h0 : IsInts w a len cap zs) :
    Calls Try.prog 8 #[.slice a len cap] w fun e w' => e = .returned (.bool true) ∧ Below w.heap.size w w' := by
  by_cases hb : 1048576 < len
  · exact wFnExactAllOrdered_big a len cap w hb
  · have hl : (zs.take len).length ≤ 1048576 := by rw [List.length_take]; omega
    exact wFnExactAllOrdered_main _ (zs.take len) (aoB (zs.take len)) (aoV (zs.take len)) ((Nat.le_trans (aoV_len (zs.take len)) (by omega))) (Lib.hid fun v w h => specAllOrdered_ret v (zs.take len) w h hl) (Lib.hid fun v w h => allOrdered_ret v (zs.take len) w h hl) w (RInts.of_in h0) hl
end Go.Proofs.Ytnlcainfkchieaa
