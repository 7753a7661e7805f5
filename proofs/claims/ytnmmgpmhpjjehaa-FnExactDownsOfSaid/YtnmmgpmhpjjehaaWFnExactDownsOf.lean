/- FnExactDownsOf for every argument. -/
import Derived.Test.YtnmmgpmhpjjehaaLFnExactDownsOf
import Derived.Test.YtnmmgpmhpjjehaaDwI
import Derived.Test.YtnmmgpmhpjjehaaDwS
namespace Go.Proofs.Ytnmmgpmhpjjehaa
open Go.RowKit
set_option linter.unusedVariables false
theorem wFnExactDownsOf (a : Option Addr) (len cap : Nat) (zs : List Int) (w : World) (h0 : IsInts w a len cap zs) :
    Calls Try.prog 13 #[.slice a len cap] w fun e w' => e = .returned (.bool true) ∧ Below w.heap.size w w' := by
  by_cases hb : 1048576 < len
  · exact wFnExactDownsOf_big a len cap w hb
  · have hl : (zs.take len).length ≤ 1048576 := by rw [List.length_take]; omega
    exact wFnExactDownsOf_main _ (zs.take len) (dwOk (zs.take len)) (dwV (zs.take len)) (dwV_len (zs.take len)) (Lib.hid fun v w h => specDowns_ret v (zs.take len) w h hl) (Lib.hid fun v w h => downsOf_ret v (zs.take len) w h hl) w (RInts.of_in h0) hl
end Go.Proofs.Ytnmmgpmhpjjehaa
