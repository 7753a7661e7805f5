/- FnExactHooksOf for every argument. -/
import Derived.Test.YtnlcainfkchieaaLFnExactHooksOf
import Derived.Test.YtnlcainfkchieaaHkI2
import Derived.Test.YtnlcainfkchieaaHkS10
namespace Go.Proofs.Ytnlcainfkchieaa
open Go.RowKit
set_option linter.unusedVariables false
theorem wFnExactHooksOf (a : Option Addr) (len cap : Nat) (zs : List Int) (w : World) (h0 : IsInts w a len cap zs) :
    Calls Try.prog 5 #[.slice a len cap] w fun e w' => e = .returned (.bool true) ∧ Below w.heap.size w w' := by
  by_cases hb : 1048576 < len
  · exact wFnExactHooksOf_big a len cap w hb
  · have hl : (zs.take len).length ≤ 1048576 := by rw [List.length_take]; omega
    exact wFnExactHooksOf_main _ (zs.take len) (resB (zs.take len)) (hkV (zs.take len)) ((Nat.le_trans (hkV_len (zs.take len)) (by omega))) ((Nat.le_trans (hkV_flat (zs.take len)) (by omega))) (Lib.hid fun v w h => specHooks_ret v (zs.take len) w h hl) (Lib.hid fun v w h => hooksOf_ret v (zs.take len) w h hl) w (RInts.of_in h0) hl
end Go.Proofs.Ytnlcainfkchieaa
