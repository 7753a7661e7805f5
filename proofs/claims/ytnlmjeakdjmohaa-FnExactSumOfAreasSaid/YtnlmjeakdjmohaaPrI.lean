/- The program's isPairs. -/
import Derived.Test.YtnlmjeakdjmohaaPrS
import Derived.Test.YtnlmjeakdjmohaaPlayI
namespace Go.Proofs.Ytnlmjeakdjmohaa
open Go.RowKit
set_option linter.unusedVariables false
theorem prB_bd (n : Int) : inBd 0 15 n = prB n := by
  unfold inBd prB inB
  rfl
set_option maxHeartbeats 400000 in
theorem isPairs_any (n : Int) (w : World) : Calls Try.prog 87 #[.int .i64 n] w fun e w' => e = .returned (.bool (prB n)) ∧ Below w.heap.size w w' := by
  have H1 : Hid (∀ X : World, Calls Try.prog 130 #[.int .i64 0, .int .i64 15, .slice (some ⟨X.heap.size, 0, none⟩) 1 1] (X.alloc (.cells #[.int .i64 n] 3)) fun e w' => e = .returned (.bool (inBd 0 15 n)) ∧ Below X.heap.size X w') := Lib.hid (within_lit 0 15 n)
  rw [prB_bd] at H1
  generalize prB n = b at *
  go_enter Try.func87, Try.ntmps87
  go_wp2_with (go_at_call 130; refine (H1.out _).mono ?_; rintro e w1 ⟨rfl, hb1⟩)
  go_ret
  exact ⟨rfl, hb1⟩
end Go.Proofs.Ytnlmjeakdjmohaa
