/- Whether a path is closed. -/
import Derived.Test.YtnlmjeakdjmohaaScalars
namespace Go.Proofs.Ytnlmjeakdjmohaa
open Go.RowKit
def closedV (s : ByteArray) : Bool := pathB s && (hAt s s.size == 0)
set_option maxHeartbeats 400000 in
theorem isClosed_ret (s : ByteArray) (w : World) (hs : s.size ≤ maxLen) : Calls Try.prog 109 #[.string s] w (Ret w (.tuple #[.bool (closedV s), .bool (pathB s)])) := by
  unfold closedV
  rcases Bool.eq_false_or_eq_true (pathB s) with hp | hp
  · have HL := Lib.hid (endV_yes hp)
    rw [hp]
    go_enter Try.func109, Try.ntmps109
    go_wp2_with (go_at_call 141; refine (endHeight_ret s _ hs).mono ?_; rintro e w1 ⟨rfl, hb⟩; rw [HL.out, hp])
    go_ret2
    exact ⟨ret_bb (by simp) rfl, hb⟩
  · rw [hp]
    go_enter Try.func109, Try.ntmps109
    go_wp2_with (go_at_call 141; refine (endHeight_ret s _ hs).mono ?_; rintro e w1 ⟨rfl, hb⟩; rw [hp])
    go_ret2
    exact ⟨ret_bb (by simp) rfl, hb⟩
end Go.Proofs.Ytnlmjeakdjmohaa
