/- The walk of FnExactIsMixed. -/
import Derived.Test.YtnmmgpmhpjjehaaKindI
import Derived.Test.YtnmmgpmhpjjehaaMixS
namespace Go.Proofs.Ytnmmgpmhpjjehaa
open Go.RowKit
set_option maxHeartbeats 400000 in
theorem wFnExactIsMixed (s : ByteArray) (w : World) (hs : s.size ≤ maxLen) :
    Calls Try.prog 4 #[.string s] w fun e w' => e = .returned (.bool true) ∧ Below w.heap.size w w' := by
  by_cases hbig : 1048576 < s.size
  · go_enter Try.func4, Try.ntmps4
    go_wp2
    go_ret
    exact ⟨rfl, Below.refl _ _⟩
  · rcases Bool.eq_false_or_eq_true (mixB s) with hp | hp
    all_goals
      go_enter Try.func4, Try.ntmps4
      go_wp2_with (first | (go_at_call 27; refine (specIsMixed_ret s _ hs).mono ?_; rintro e w' ⟨rfl, rfl⟩) | (go_at_call 28; refine (isMixed_ret s _ hs).mono ?_; rintro e w' ⟨rfl, rfl⟩))
      go_ret
      exact ⟨rfl, Below.refl _ _⟩
end Go.Proofs.Ytnmmgpmhpjjehaa
