/- FnExactCountOrdered for every argument. -/
import Derived.Test.YtnlcainfkchieaaLFnExactCountOrdered
import Derived.Test.YtnlcainfkchieaaCoI
import Derived.Test.YtnlcainfkchieaaCoS
namespace Go.Proofs.Ytnlcainfkchieaa
open Go.RowKit
set_option linter.unusedVariables false
theorem wFnExactCountOrdered (a : Option Addr) (len cap : Nat) (zs : List Int) (w : World) (h0 : IsInts w a len cap zs) :
    Calls Try.prog 6 #[.slice a len cap] w fun e w' => e = .returned (.bool true) ∧ Below w.heap.size w w' := by
  by_cases hb : 1048576 < len
  · exact wFnExactCountOrdered_big a len cap w hb
  · have hl : (zs.take len).length ≤ 1048576 := by rw [List.length_take]; omega
    exact wFnExactCountOrdered_main _ (zs.take len) (resB (zs.take len)) (coW (zs.take len)) (Lib.hid fun v w h => specCountOrd_ret v (zs.take len) w h hl) (Lib.hid fun v w h => countOrd_ret v (zs.take len) w h hl) w (RInts.of_in h0) hl
end Go.Proofs.Ytnlcainfkchieaa
