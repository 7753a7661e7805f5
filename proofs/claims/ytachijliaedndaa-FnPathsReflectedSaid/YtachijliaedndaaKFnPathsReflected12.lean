/- Pack 12 of what FnPathsReflected needs: Good, Closed. -/
import Derived.Test.YtachijliaedndaaKFnPathsReflected11
/- Whether a path is good. -/
namespace Go.Proofs.Ytachijliaedndaa
open Go.RowKit
def goodV (s : ByteArray) : Bool := pathB s && decide (0 ≤ minTo s s.size)
set_option maxHeartbeats 400000 in
theorem isGood_ret (s : ByteArray) (w : World) (hs : s.size ≤ maxLen) : Calls Try.prog 25 #[.string s] w (Ret w (.tuple #[.bool (goodV s), .bool (pathB s)])) := by
  unfold goodV
  rcases Bool.eq_false_or_eq_true (pathB s) with hp | hp
  · have HL := Lib.hid (lowV_yes hp)
    rw [hp]
    go_enter Try.func25, Try.ntmps25
    go_wp2_with (go_at_call 158; refine (lowestOf_ret s _ hs).mono ?_; rintro e w1 ⟨rfl, hb⟩; rw [HL.out, hp])
    go_ret2
    exact ⟨ret_bb (by simp) rfl, hb⟩
  · rw [hp]
    go_enter Try.func25, Try.ntmps25
    go_wp2_with (go_at_call 158; refine (lowestOf_ret s _ hs).mono ?_; rintro e w1 ⟨rfl, hb⟩; rw [hp])
    go_ret2
    exact ⟨ret_bb (by simp) rfl, hb⟩
end Go.Proofs.Ytachijliaedndaa

/- Whether a path is closed. -/
namespace Go.Proofs.Ytachijliaedndaa
open Go.RowKit
def closedV (s : ByteArray) : Bool := pathB s && (hAt s s.size == 0)
set_option maxHeartbeats 400000 in
theorem isClosed_ret (s : ByteArray) (w : World) (hs : s.size ≤ maxLen) : Calls Try.prog 26 #[.string s] w (Ret w (.tuple #[.bool (closedV s), .bool (pathB s)])) := by
  unfold closedV
  rcases Bool.eq_false_or_eq_true (pathB s) with hp | hp
  · have HL := Lib.hid (endV_yes hp)
    rw [hp]
    go_enter Try.func26, Try.ntmps26
    go_wp2_with (go_at_call 20; refine (endHeight_ret s _ hs).mono ?_; rintro e w1 ⟨rfl, hb⟩; rw [HL.out, hp])
    go_ret2
    exact ⟨ret_bb (by simp) rfl, hb⟩
  · rw [hp]
    go_enter Try.func26, Try.ntmps26
    go_wp2_with (go_at_call 20; refine (endHeight_ret s _ hs).mono ?_; rintro e w1 ⟨rfl, hb⟩; rw [hp])
    go_ret2
    exact ⟨ret_bb (by simp) rfl, hb⟩
end Go.Proofs.Ytachijliaedndaa
