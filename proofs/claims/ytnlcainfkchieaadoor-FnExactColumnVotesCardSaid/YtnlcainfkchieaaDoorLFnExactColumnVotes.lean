/- The walk of FnExactColumnVotes: it asks the model and the program and holds them against each other. -/
import Derived.Test.YtnlcainfkchieaaDoorOwn
namespace Go.Proofs.YtnlcainfkchieaaDoor
open Go.RowKit

set_option maxHeartbeats 1000000 in
theorem wFnExactColumnVotes_main (a0 : ByteArray) (ok : Bool) (x0 : ByteArray)
    (hS : Hid (∀ w, Calls Tryd.prog 43 #[.string a0] w (Ret w (.tuple #[.string x0, .bool ok])))) (hI : Hid (∀ w, Calls Tryd.prog 44 #[.string a0] w (Ret w (.tuple #[.string x0, .bool ok])))) (w : World) (hz0 : ¬ 1048576 < a0.size) :
    Calls Tryd.prog 12 #[.string a0] w fun e w' => e = .returned (.bool true) ∧ Below w.heap.size w w' := by
  go_enter Tryd.func12, Tryd.ntmps12
  go_wp2_with fail
  refine (hS.out _).mono ?_
  rintro e w1 ⟨rfl, hb0⟩
  go_wp2_with fail
  refine (hI.out _).mono ?_
  rintro e w2 ⟨rfl, hb1⟩
  go_wp2_with fail
  go_ret
  exact ⟨rfl, hb0.trans (hb1.mono hb0.size)⟩

set_option maxHeartbeats 400000 in
theorem wFnExactColumnVotes_big (a0 : ByteArray) (w : World) (hb : 1048576 < a0.size) :
    Calls Tryd.prog 12 #[.string a0] w fun e w' => e = .returned (.bool true) ∧ Below w.heap.size w w' := by
  go_enter Tryd.func12, Tryd.ntmps12
  go_wp2
  go_ret
  exact ⟨rfl, Below.refl _ _⟩

end Go.Proofs.YtnlcainfkchieaaDoor
