/- Whether a path is good. -/
import Derived.Test.YtgajknnfmnnfeaaScalars
namespace Go.Proofs.Ytgajknnfmnnfeaa
open Go.RowKit
def goodV (s : ByteArray) : Bool := pathB s && decide (0 ≤ minTo s s.size)
set_option maxHeartbeats 400000 in
theorem isGood_ret (s : ByteArray) (w : World) (hs : s.size ≤ maxLen) : Calls Try.prog 81 #[.string s] w (Ret w (.tuple #[.bool (goodV s), .bool (pathB s)])) := by
  unfold goodV
  rcases Bool.eq_false_or_eq_true (pathB s) with hp | hp
  · have HL := Lib.hid (lowV_yes hp)
    rw [hp]
    go_enter Try.func81, Try.ntmps81
    go_wp2_with (go_at_call 103; refine (lowestOf_ret s _ hs).mono ?_; rintro e w1 ⟨rfl, hb⟩; rw [HL.out, hp])
    go_ret2
    exact ⟨ret_bb (by simp) rfl, hb⟩
  · rw [hp]
    go_enter Try.func81, Try.ntmps81
    go_wp2_with (go_at_call 103; refine (lowestOf_ret s _ hs).mono ?_; rintro e w1 ⟨rfl, hb⟩; rw [hp])
    go_ret2
    exact ⟨ret_bb (by simp) rfl, hb⟩
end Go.Proofs.Ytgajknnfmnnfeaa
