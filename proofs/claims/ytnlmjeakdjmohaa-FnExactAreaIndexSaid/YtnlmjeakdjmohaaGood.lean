/- Whether a path is good. -/
import Derived.Test.YtnlmjeakdjmohaaScalars
namespace Go.Proofs.Ytnlmjeakdjmohaa
open Go.RowKit
def goodV (s : ByteArray) : Bool := pathB s && decide (0 ≤ minTo s s.size)
set_option maxHeartbeats 400000 in
theorem isGood_ret (s : ByteArray) (w : World) (hs : s.size ≤ maxLen) : Calls Try.prog 108 #[.string s] w (Ret w (.tuple #[.bool (goodV s), .bool (pathB s)])) := by
  unfold goodV
  rcases Bool.eq_false_or_eq_true (pathB s) with hp | hp
  · have HL := Lib.hid (lowV_yes hp)
    rw [hp]
    go_enter Try.func108, Try.ntmps108
    go_wp2_with (go_at_call 140; refine (lowestOf_ret s _ hs).mono ?_; rintro e w1 ⟨rfl, hb⟩; rw [HL.out, hp])
    go_ret2
    exact ⟨ret_bb (by simp) rfl, hb⟩
  · rw [hp]
    go_enter Try.func108, Try.ntmps108
    go_wp2_with (go_at_call 140; refine (lowestOf_ret s _ hs).mono ?_; rintro e w1 ⟨rfl, hb⟩; rw [hp])
    go_ret2
    exact ⟨ret_bb (by simp) rfl, hb⟩
end Go.Proofs.Ytnlmjeakdjmohaa
