/- The model's counts by reflections: l1Abs, miTo, miTouching, CountTouching, CountAbove, CountHighest. -/
import Derived.Test.YtfimcadnlhohlaaTchMath
import Derived.Test.YtfimcadnlhohlaaLeastMost
import Derived.Test.YtfimcadnlhohlaaChoose
namespace Go.Proofs.Ytfimcadnlhohlaa
open Go.RowKit
set_option linter.unusedVariables false
theorem absI_any (a : Int) (w : World) (ha : -1000000 ≤ a ∧ a ≤ 1000000) : Calls Try.prog 83 #[.int .i64 a] w fun e w' => e = .returned (.int .i64 (if a < -a then -a else a)) ∧ w = w' := by
  have HM := Lib.hid (most_any a (-a))
  obtain ⟨a1, a2⟩ := ha
  go_enter Try.func83, Try.ntmps83
  go_wp2_with (go_at_call 73; refine (HM.out _).mono ?_; rintro e w' ⟨rfl, rfl⟩)
  all_goals go_ret
  all_goals exact ⟨rfl, rfl⟩
end Go.Proofs.Ytfimcadnlhohlaa
