/- leadsAlong, baMargin: all margins; firstBelow, baFirst: the first that is too small. -/
import Derived.Test.YtfimcadnlhohlaaPathOk
import Derived.Test.YtfimcadnlhohlaaLists
import Derived.Test.YtfimcadnlhohlaaBalMath
import Derived.Test.YtfimcadnlhohlaaInB
import Derived.Test.YtfimcadnlhohlaaRatMath
namespace Go.Proofs.Ytfimcadnlhohlaa
open Go.RowKit
theorem inK_inB (k : Int) : inB k 1 5 = inK k := rfl
theorem balOk_of {s : ByteArray} {k : Int} (h : balOk s k = true) : pathB s = true ∧ 1 ≤ k ∧ k ≤ 5 := by
  unfold balOk at h
  rw [Bool.and_eq_true] at h
  exact ⟨h.1, inK_of h.2⟩
def mgsV (s : ByteArray) (k : Int) : List Int := if balOk s k then mgs s k else []
end Go.Proofs.Ytfimcadnlhohlaa
