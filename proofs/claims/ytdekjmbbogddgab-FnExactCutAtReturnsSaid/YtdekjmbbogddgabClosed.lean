/- Whether a path is closed. -/
import Derived.Test.YtdekjmbbogddgabScalars
namespace Go.Proofs.Ytdekjmbbogddgab
open Go.RowKit
def closedV (s : ByteArray) : Bool := pathB s && (hAt s s.size == 0)
set_option maxHeartbeats 400000 in
theorem isClosed_ret (s : ByteArray) (w : World) (hs : s.size ≤ maxLen) : Calls Try.prog 15 #[.string s] w (Ret w (.tuple #[.bool (closedV s), .bool (pathB s)])) := by
  unfold closedV
  rcases Bool.eq_false_or_eq_true (pathB s) with hp | hp
  · have HL := Lib.hid (endV_yes hp)
    rw [hp]
    go_enter Try.func15, Try.ntmps15
    go_wp2_with (go_at_call 45; refine (endHeight_ret s _ hs).mono ?_; rintro e w1 ⟨rfl, hb⟩; rw [HL.out, hp])
    go_ret2
    exact ⟨ret_bb (by simp) rfl, hb⟩
  · rw [hp]
    go_enter Try.func15, Try.ntmps15
    go_wp2_with (go_at_call 45; refine (endHeight_ret s _ hs).mono ?_; rintro e w1 ⟨rfl, hb⟩; rw [hp])
    go_ret2
    exact ⟨ret_bb (by simp) rfl, hb⟩
set_option maxHeartbeats 400000 in
theorem specClosed_ret (s : ByteArray) (w : World) (hs : s.size ≤ maxLen) : Calls Try.prog 14 #[.string s] w (Ret w (.tuple #[.bool (closedV s), .bool (pathB s)])) := by
  unfold closedV
  rcases Bool.eq_false_or_eq_true (pathB s) with hp | hp
  · have HP := Lib.hid hp
    rw [hp]
    go_enter Try.func14, Try.ntmps14
    go_wp2_with (first | (go_at_call 43; refine (paGood_any s _ hs).mono ?_; rintro e w' ⟨rfl, rfl⟩) | (go_at_call 44; refine (paEnd_ret s _ HP.out).mono ?_; rintro e w1 ⟨rfl, hb⟩))
    go_ret2
    exact ⟨ret_bb (by simp) rfl, hb⟩
  · rw [hp]
    go_enter Try.func14, Try.ntmps14
    go_wp2_with (go_at_call 43; refine (paGood_any s _ hs).mono ?_; rintro e w' ⟨rfl, rfl⟩)
    go_ret2
    exact ⟨ret_bb (by simp) rfl, Below.refl _ _⟩
end Go.Proofs.Ytdekjmbbogddgab
