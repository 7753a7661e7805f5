/- Whether a path is good. -/
import Derived.Test.YtdekjmbbogddgaaScalars
namespace Go.Proofs.Ytdekjmbbogddgaa
open Go.RowKit
def goodV (s : ByteArray) : Bool := pathB s && decide (0 ≤ minTo s s.size)
set_option maxHeartbeats 400000 in
theorem isGood_ret (s : ByteArray) (w : World) (hs : s.size ≤ maxLen) : Calls Try.prog 27 #[.string s] w (Ret w (.tuple #[.bool (goodV s), .bool (pathB s)])) := by
  unfold goodV
  rcases Bool.eq_false_or_eq_true (pathB s) with hp | hp
  · have HL := Lib.hid (lowV_yes hp)
    rw [hp]
    go_enter Try.func27, Try.ntmps27
    go_wp2_with (go_at_call 21; refine (lowestOf_ret s _ hs).mono ?_; rintro e w1 ⟨rfl, hb⟩; rw [HL.out, hp])
    go_ret2
    exact ⟨ret_bb (by simp) rfl, hb⟩
  · rw [hp]
    go_enter Try.func27, Try.ntmps27
    go_wp2_with (go_at_call 21; refine (lowestOf_ret s _ hs).mono ?_; rintro e w1 ⟨rfl, hb⟩; rw [hp])
    go_ret2
    exact ⟨ret_bb (by simp) rfl, hb⟩
set_option maxHeartbeats 400000 in
theorem specGood_ret (s : ByteArray) (w : World) (hs : s.size ≤ maxLen) : Calls Try.prog 28 #[.string s] w (Ret w (.tuple #[.bool (goodV s), .bool (pathB s)])) := by
  unfold goodV
  rcases Bool.eq_false_or_eq_true (pathB s) with hp | hp
  · have HP := Lib.hid hp
    rw [hp]
    go_enter Try.func28, Try.ntmps28
    go_wp2_with (first | (go_at_call 75; refine (paGood_any s _ hs).mono ?_; rintro e w' ⟨rfl, rfl⟩) | (go_at_call 79; refine (paLow_ret s _ HP.out).mono ?_; rintro e w1 ⟨rfl, hb⟩))
    go_ret2
    exact ⟨ret_bb (by simp) rfl, hb⟩
  · rw [hp]
    go_enter Try.func28, Try.ntmps28
    go_wp2_with (go_at_call 75; refine (paGood_any s _ hs).mono ?_; rintro e w' ⟨rfl, rfl⟩)
    go_ret2
    exact ⟨ret_bb (by simp) rfl, Below.refl _ _⟩
end Go.Proofs.Ytdekjmbbogddgaa
