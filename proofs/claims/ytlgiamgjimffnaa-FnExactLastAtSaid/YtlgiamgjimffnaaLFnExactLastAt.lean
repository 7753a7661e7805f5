/- The walk of FnExactLastAt: it asks the model and the program and holds them against each other. -/
import Derived.Test.YtlgiamgjimffnaaOwn
namespace Go.Proofs.Ytlgiamgjimffnaa
open Go.RowKit

set_option maxHeartbeats 1000000 in
theorem wFnExactLastAt_main (a0 : ByteArray) (a1 : Int) (ok : Bool) (x0 : Int)
    (hS : Hid (∀ w, Calls Try.prog 44 #[.string a0, .int .i64 a1] w (Ret w (.tuple #[.int .i64 x0, .bool ok])))) (hI : Hid (∀ w, Calls Try.prog 45 #[.string a0, .int .i64 a1] w (Ret w (.tuple #[.int .i64 x0, .bool ok])))) (w : World) (hz0 : ¬ 1048576 < a0.size) :
    Calls Try.prog 11 #[.string a0, .int .i64 a1] w fun e w' => e = .returned (.bool true) ∧ Below w.heap.size w w' := by
  go_enter Try.func11, Try.ntmps11
  go_wp2_with fail
  refine (hS.out _).mono ?_
  rintro e w1 ⟨rfl, hb0⟩
  go_wp2_with fail
  refine (hI.out _).mono ?_
  rintro e w2 ⟨rfl, hb1⟩
  go_wp2_with fail
  go_ret
  exact ⟨rfl, hb0.trans (hb1.mono hb0.size)⟩

set_option maxHeartbeats 400000 in
theorem wFnExactLastAt_big (a0 : ByteArray) (a1 : Int) (w : World) (hb : 1048576 < a0.size) :
    Calls Try.prog 11 #[.string a0, .int .i64 a1] w fun e w' => e = .returned (.bool true) ∧ Below w.heap.size w w' := by
  go_enter Try.func11, Try.ntmps11
  go_wp2
  go_ret
  exact ⟨rfl, Below.refl _ _⟩

end Go.Proofs.Ytlgiamgjimffnaa
