/- The walk of FnExactSumOfHighest: it asks the model and the program and holds them against each other. -/
import Derived.Test.YtnlmjeakdjmohaaOwn
namespace Go.Proofs.Ytnlmjeakdjmohaa
open Go.RowKit

set_option maxHeartbeats 1000000 in
theorem wFnExactSumOfHighest_main (a0 : Int) (ok : Bool) (x0 : Int)
    (hS : Hid (∀ w, Calls Try.prog 53 #[.int .i64 a0] w (Ret w (.tuple #[.int .i64 x0, .bool ok])))) (hI : Hid (∀ w, Calls Try.prog 54 #[.int .i64 a0] w (Ret w (.tuple #[.int .i64 x0, .bool ok])))) (w : World)  :
    Calls Try.prog 12 #[.int .i64 a0] w fun e w' => e = .returned (.bool true) ∧ Below w.heap.size w w' := by
  go_enter Try.func12, Try.ntmps12
  go_wp2_with fail
  refine (hS.out _).mono ?_
  rintro e w1 ⟨rfl, hb0⟩
  go_wp2_with fail
  refine (hI.out _).mono ?_
  rintro e w2 ⟨rfl, hb1⟩
  go_wp2_with fail
  go_ret
  exact ⟨rfl, hb0.trans (hb1.mono hb0.size)⟩

end Go.Proofs.Ytnlmjeakdjmohaa
