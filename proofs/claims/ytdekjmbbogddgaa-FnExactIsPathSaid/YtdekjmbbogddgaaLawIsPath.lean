/- The walk of FnExactIsPath. -/
import Derived.Test.YtdekjmbbogddgaaPathOk
namespace Go.Proofs.Ytdekjmbbogddgaa
open Go.RowKit
set_option maxHeartbeats 400000 in
theorem lawIsPath_walk (s : ByteArray) (w : World) (hs : s.size ≤ maxLen) :
    Calls Try.prog 5 #[.string s] w fun e w' => e = .returned (.bool true) ∧ Below w.heap.size w w' := by
  by_cases hbig : 1048576 < s.size
  · go_enter Try.func5, Try.ntmps5
    go_wp2
    go_ret
    exact ⟨rfl, Below.refl _ _⟩
  · rcases Bool.eq_false_or_eq_true (pathB s) with hp | hp
    all_goals
      go_enter Try.func5, Try.ntmps5
      go_wp2_with (first | (go_at_call 37; refine (specIsPath_any s _ hs).mono ?_; rintro e w' ⟨rfl, rfl⟩) | (go_at_call 36; refine (isPath_any s _ hs).mono ?_; rintro e w' ⟨rfl, rfl⟩))
      go_ret
      exact ⟨rfl, Below.refl _ _⟩
end Go.Proofs.Ytdekjmbbogddgaa
