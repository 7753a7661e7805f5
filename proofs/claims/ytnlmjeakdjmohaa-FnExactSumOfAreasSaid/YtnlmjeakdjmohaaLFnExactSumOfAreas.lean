/- The walk of FnExactSumOfAreas: it asks the model and the program and holds them against each other. -/
import Derived.Test.YtnlmjeakdjmohaaOwn
namespace Go.Proofs.Ytnlmjeakdjmohaa
open Go.RowKit

set_option maxHeartbeats 1000000 in
theorem wFnExactSumOfAreas_main (a0 : Int) (ok : Bool) (x0 : Int)
    (hS : Hid (∀ w, Calls Try.prog 51 #[.int .i64 a0] w (Ret w (.tuple #[.int .i64 x0, .bool ok])))) (hI : Hid (∀ w, Calls Try.prog 52 #[.int .i64 a0] w (Ret w (.tuple #[.int .i64 x0, .bool ok])))) (w : World)  :
    Calls Try.prog 11 #[.int .i64 a0] w fun e w' => e = .returned (.bool true) ∧ Below w.heap.size w w' := by
  go_enter Try.func11, Try.ntmps11
  go_wp2_with fail
  refine (hS.out _).mono ?_
  rintro e w1 ⟨rfl, hb0⟩
  go_wp2_with fail
  refine (hI.out _).mono ?_
  rintro e w2 ⟨rfl, hb1⟩
  go_wp2_with fail
  go_ret
  exact ⟨rfl, hb0.trans (hb1.mono hb0.size)⟩

end Go.Proofs.Ytnlmjeakdjmohaa
