/- spec.HeightsOf; both in one form. -/
import Derived.Test.YtnlcainfkchieaaHeights
namespace Go.Proofs.Ytnlcainfkchieaa
open Go.RowKit
def htsV (s : ByteArray) : List Int := if pathB s then hts s else []
theorem htsV_len (s : ByteArray) (h : ¬ 1048576 < s.size) : (htsV s).length ≤ 1048577 := by
  unfold htsV; split
  · rw [hts_length]; omega
  · simp
end Go.Proofs.Ytnlcainfkchieaa
