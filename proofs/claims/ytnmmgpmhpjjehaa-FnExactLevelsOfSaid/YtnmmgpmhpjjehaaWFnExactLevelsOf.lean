/- FnExactLevelsOf for every argument. -/
import Derived.Test.YtnmmgpmhpjjehaaLFnExactLevelsOf
import Derived.Test.YtnmmgpmhpjjehaaLfI
import Derived.Test.YtnmmgpmhpjjehaaLfS
namespace Go.Proofs.Ytnmmgpmhpjjehaa
open Go.RowKit
set_option linter.unusedVariables false
theorem wFnExactLevelsOf (a : Option Addr) (len cap : Nat) (zs : List Int) (w : World) (h0 : IsInts w a len cap zs) :
    Calls Try.prog 14 #[.slice a len cap] w fun e w' => e = .returned (.bool true) ∧ Below w.heap.size w w' := by
  by_cases hb : 1048576 < len
  · exact wFnExactLevelsOf_big a len cap w hb
  · have hl : (zs.take len).length ≤ 1048576 := by rw [List.length_take]; omega
    exact wFnExactLevelsOf_main _ (zs.take len) (lfOk (zs.take len)) (lfF (zs.take len)) (lfD (zs.take len)) ((lf_len (zs.take len)).1) ((lf_len (zs.take len)).2) (Lib.hid fun v w h => specLevels_ret v (zs.take len) w h hl) (Lib.hid fun v w h => levelsOf_ret v (zs.take len) w h hl) w (RInts.of_in h0) hl
end Go.Proofs.Ytnmmgpmhpjjehaa
