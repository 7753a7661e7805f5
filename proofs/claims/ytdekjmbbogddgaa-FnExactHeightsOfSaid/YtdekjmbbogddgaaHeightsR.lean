/- spec.HeightsOf; both in one form. -/
import Derived.Test.YtdekjmbbogddgaaHeights
namespace Go.Proofs.Ytdekjmbbogddgaa
open Go.RowKit
def htsV (s : ByteArray) : List Int := if pathB s then hts s else []
theorem htsV_len (s : ByteArray) (h : ¬ 1048576 < s.size) : (htsV s).length ≤ 1048577 := by
  unfold htsV; split
  · rw [hts_length]; omega
  · simp
theorem heights_ret (s : ByteArray) (w : World) (hs : s.size ≤ maxLen) : Calls Try.prog 17 #[.string s] w (IntsRet w (pathB s) (htsV s)) := by
  unfold htsV
  rcases Bool.eq_false_or_eq_true (pathB s) with hp | hp
  · rw [hp, if_pos rfl]; exact (heights_any s w hs hp).mono fun _ _ h => h.ret
  · rw [hp]; exact (heights_no s w hs hp).mono fun _ _ h => h.ret
set_option maxHeartbeats 400000 in
theorem specHeights_ret (s : ByteArray) (w : World) (hs : s.size ≤ maxLen) : Calls Try.prog 18 #[.string s] w (IntsRet w (pathB s) (htsV s)) := by
  unfold htsV
  rcases Bool.eq_false_or_eq_true (pathB s) with hp | hp
  · rw [hp, if_pos rfl]
    have HP := Lib.hid hp
    go_enter Try.func18, Try.ntmps18
    go_wp2_with (first | (go_at_call 75; refine (paGood_any s _ hs).mono ?_; rintro e w' ⟨rfl, rfl⟩) | (go_at_call 76; refine (paHeights_any s _ HP.out).mono ?_; rintro e w' ⟨v, rfl, hr, hb⟩))
    go_ret2
    exact ⟨_, rfl, hr, hb⟩
  · rw [hp]
    go_enter Try.func18, Try.ntmps18
    go_wp2_with (go_at_call 75; refine (paGood_any s _ hs).mono ?_; rintro e w' ⟨rfl, rfl⟩)
    go_ret2
    exact ⟨_, rfl, IRow.nil _ _, Below.refl _ _⟩
end Go.Proofs.Ytdekjmbbogddgaa
