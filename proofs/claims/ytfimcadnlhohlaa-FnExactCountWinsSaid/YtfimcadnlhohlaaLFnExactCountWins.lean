/- The walk of FnExactCountWins: it asks the model and the program and holds them against each other. -/
import Derived.Test.YtfimcadnlhohlaaOwn
namespace Go.Proofs.Ytfimcadnlhohlaa
open Go.RowKit

set_option maxHeartbeats 1000000 in
theorem wFnExactCountWins_main (a0 : Int) (a1 : Int) (a2 : Int) (ok : Bool) (x0 : Int)
    (hS : Hid (∀ w, Calls Try.prog 49 #[.int .i64 a0, .int .i64 a1, .int .i64 a2] w (Ret w (.tuple #[.int .i64 x0, .bool ok])))) (hI : Hid (∀ w, Calls Try.prog 50 #[.int .i64 a0, .int .i64 a1, .int .i64 a2] w (Ret w (.tuple #[.int .i64 x0, .bool ok])))) (w : World)  :
    Calls Try.prog 16 #[.int .i64 a0, .int .i64 a1, .int .i64 a2] w fun e w' => e = .returned (.bool true) ∧ Below w.heap.size w w' := by
  go_enter Try.func16, Try.ntmps16
  go_wp2_with fail
  refine (hS.out _).mono ?_
  rintro e w1 ⟨rfl, hb0⟩
  go_wp2_with fail
  refine (hI.out _).mono ?_
  rintro e w2 ⟨rfl, hb1⟩
  go_wp2_with fail
  go_ret
  exact ⟨rfl, hb0.trans (hb1.mono hb0.size)⟩

end Go.Proofs.Ytfimcadnlhohlaa
