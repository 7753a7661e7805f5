/- The walk of FnExactCountFans: it asks the model and the program and holds them against each other. -/
import Derived.Test.YtahnknbggacndaaOwn
namespace Go.Proofs.Ytahnknbggacndaa
open Go.RowKit

set_option maxHeartbeats 1000000 in
theorem wFnExactCountFans_main (a0 : Int) (a1 : Int) (ok : Bool) (x0 : Int)
    (hS : Hid (∀ w, Calls Try.prog 73 #[.int .i64 a0, .int .i64 a1] w (Ret w (.tuple #[.int .i64 x0, .bool ok])))) (hI : Hid (∀ w, Calls Try.prog 74 #[.int .i64 a0, .int .i64 a1] w (Ret w (.tuple #[.int .i64 x0, .bool ok])))) (w : World)  :
    Calls Try.prog 18 #[.int .i64 a0, .int .i64 a1] w fun e w' => e = .returned (.bool true) ∧ Below w.heap.size w w' := by
  go_enter Try.func18, Try.ntmps18
  go_wp2_with fail
  refine (hS.out _).mono ?_
  rintro e w1 ⟨rfl, hb0⟩
  go_wp2_with fail
  refine (hI.out _).mono ?_
  rintro e w2 ⟨rfl, hb1⟩
  go_wp2_with fail
  go_ret
  exact ⟨rfl, hb0.trans (hb1.mono hb0.size)⟩

end Go.Proofs.Ytahnknbggacndaa
