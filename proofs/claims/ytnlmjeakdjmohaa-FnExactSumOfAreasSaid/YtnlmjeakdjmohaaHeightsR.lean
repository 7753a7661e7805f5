/- spec.HeightsOf; both in one form. -/
import Derived.Test.YtnlmjeakdjmohaaHeights
namespace Go.Proofs.Ytnlmjeakdjmohaa
open Go.RowKit
def htsV (s : ByteArray) : List Int := if pathB s then hts s else []
theorem htsV_len (s : ByteArray) (h : ¬ 1048576 < s.size) : (htsV s).length ≤ 1048577 := by
  unfold htsV; split
  · rw [hts_length]; omega
  · simp
theorem heights_ret (s : ByteArray) (w : World) (hs : s.size ≤ maxLen) : Calls Try.prog 100 #[.string s] w (IntsRet w (pathB s) (htsV s)) := by
  unfold htsV
  rcases Bool.eq_false_or_eq_true (pathB s) with hp | hp
  · rw [hp, if_pos rfl]; exact (heights_any s w hs hp).mono fun _ _ h => h.ret
  · rw [hp]; exact (heights_no s w hs hp).mono fun _ _ h => h.ret
end Go.Proofs.Ytnlmjeakdjmohaa
