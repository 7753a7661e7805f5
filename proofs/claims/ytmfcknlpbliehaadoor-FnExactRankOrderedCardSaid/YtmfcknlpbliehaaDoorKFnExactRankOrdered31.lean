/- Pack 31 of what FnExactRankOrdered needs: CatI, CoI. -/
import Derived.Test.YtmfcknlpbliehaaDoorKFnExactRankOrdered30
import Derived.Lib.AppendZeros
/- slices.Grow of nil, slices.Concat of rows. -/
namespace Go.Proofs.YtmfcknlpbliehaaDoor
open Go.RowKit
set_option linter.unusedVariables false
theorem flat_take9 {xss : List (List Int)} {k : Nat} (h : k < xss.length) : (xss.take (k + 1)).flatten = (xss.take k).flatten ++ xss.getD k [] := by
  rw [List.take_succ_eq_append_getElem h, List.flatten_append, List.getD_eq_getElem?_getD, List.getElem?_eq_getElem h]
  simp
end Go.Proofs.YtmfcknlpbliehaaDoor

/- CountOrdered: the program. -/
namespace Go.Proofs.YtmfcknlpbliehaaDoor
open Go.RowKit
set_option linter.unusedVariables false
end Go.Proofs.YtmfcknlpbliehaaDoor
