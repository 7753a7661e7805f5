/- The walk of FnExactLastReturn: it asks the model and the program and holds them against each other. -/
import Derived.Test.YtnlmjeakdjmohaaOwn
namespace Go.Proofs.Ytnlmjeakdjmohaa
open Go.RowKit

set_option maxHeartbeats 1000000 in
theorem wFnExactLastReturn_main (a0 : ByteArray) (ok : Bool) (x0 : Int)
    (hS : Hid (∀ w, Calls Try.prog 63 #[.string a0] w (Ret w (.tuple #[.int .i64 x0, .bool ok])))) (hI : Hid (∀ w, Calls Try.prog 64 #[.string a0] w (Ret w (.tuple #[.int .i64 x0, .bool ok])))) (w : World) (hz0 : ¬ 1048576 < a0.size) :
    Calls Try.prog 17 #[.string a0] w fun e w' => e = .returned (.bool true) ∧ Below w.heap.size w w' := by
  go_enter Try.func17, Try.ntmps17
  go_wp2_with fail
  refine (hS.out _).mono ?_
  rintro e w1 ⟨rfl, hb0⟩
  go_wp2_with fail
  refine (hI.out _).mono ?_
  rintro e w2 ⟨rfl, hb1⟩
  go_wp2_with fail
  go_ret
  exact ⟨rfl, hb0.trans (hb1.mono hb0.size)⟩

set_option maxHeartbeats 400000 in
theorem wFnExactLastReturn_big (a0 : ByteArray) (w : World) (hb : 1048576 < a0.size) :
    Calls Try.prog 17 #[.string a0] w fun e w' => e = .returned (.bool true) ∧ Below w.heap.size w w' := by
  go_enter Try.func17, Try.ntmps17
  go_wp2
  go_ret
  exact ⟨rfl, Below.refl _ _⟩

end Go.Proofs.Ytnlmjeakdjmohaa
