/- Pack 33 of what FnExactOrderedOfRank needs: WFnExactOrderedOfRank. -/
import Derived.Test.YtmfcknlpbliehaaKFnExactOrderedOfRank32
import Derived.OpenShut
/- FnExactOrderedOfRank for every argument. -/
namespace Go.Proofs.Ytmfcknlpbliehaa
open Go.RowKit
set_option linter.unusedVariables false
theorem wFnExactOrderedOfRank (a : Option Addr) (len cap : Nat) (zs : List Int) (a1 : Int) (w : World) (h0 : IsInts w a len cap zs) (hs1 : (Lit.int .i64 a1).wf = true) :
    Calls Try.prog 3 #[.slice a len cap, .int .i64 a1] w fun e w' => e = .returned (.bool true) ∧ Below w.heap.size w w' := by
  by_cases hb : 1048576 < len
  · exact wFnExactOrderedOfRank_big a len cap a1 w hb
  · have hl : (zs.take len).length ≤ 1048576 := by rw [List.length_take]; omega
    exact wFnExactOrderedOfRank_main _ (zs.take len) a1 (orB (zs.take len) a1) (orV (zs.take len) a1) (Lib.hid fun v w h => specOrderedOfRank_ret v (zs.take len) a1 w h hl (Go.bounds_i64 hs1)) (Lib.hid fun v w h => orderedOfRank_ret v (zs.take len) a1 w h hl (Go.bounds_i64 hs1)) w (RInts.of_in h0) hl
end Go.Proofs.Ytmfcknlpbliehaa
