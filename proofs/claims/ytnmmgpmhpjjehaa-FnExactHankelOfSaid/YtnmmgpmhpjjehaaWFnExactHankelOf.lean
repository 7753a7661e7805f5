/- FnExactHankelOf for every argument. -/
import Derived.Test.YtnmmgpmhpjjehaaLFnExactHankelOf
import Derived.Test.YtnmmgpmhpjjehaaHkI
import Derived.Test.YtnmmgpmhpjjehaaHkS
namespace Go.Proofs.Ytnmmgpmhpjjehaa
open Go.RowKit
set_option linter.unusedVariables false
theorem wFnExactHankelOf (a : Option Addr) (len cap : Nat) (zs : List Int) (a1 : Int) (w : World) (h0 : IsInts w a len cap zs) (hs1 : (Lit.int .i64 a1).wf = true) :
    Calls Try.prog 12 #[.slice a len cap, .int .i64 a1] w fun e w' => e = .returned (.bool true) ∧ Below w.heap.size w w' := by
  by_cases hb : 1048576 < len
  · exact wFnExactHankelOf_big a len cap a1 w hb
  · have hl : (zs.take len).length ≤ 1048576 := by rw [List.length_take]; omega
    exact wFnExactHankelOf_main _ (zs.take len) a1 (hkOk (zs.take len) a1) (hkV (zs.take len) a1) (Lib.hid fun v w h => specHankel_ret v (zs.take len) a1 w h hl) (Lib.hid fun v w h => hankelOf_ret v (zs.take len) a1 w h hl) w (RInts.of_in h0) hl
end Go.Proofs.Ytnmmgpmhpjjehaa
