/- The walk of FnExactReverseVotes: it asks the model and the program and holds them against each other. -/
import Derived.Test.YtnlcainfkchieaaDoorOwn
namespace Go.Proofs.YtnlcainfkchieaaDoor
open Go.RowKit

set_option maxHeartbeats 1000000 in
theorem wFnExactReverseVotes_main (a0 : ByteArray) (ok : Bool) (x0 : ByteArray)
    (hS : Hid (∀ w, Calls Tryd.prog 45 #[.string a0] w (Ret w (.tuple #[.string x0, .bool ok])))) (hI : Hid (∀ w, Calls Tryd.prog 46 #[.string a0] w (Ret w (.tuple #[.string x0, .bool ok])))) (w : World) (hz0 : ¬ 1048576 < a0.size) :
    Calls Tryd.prog 13 #[.string a0] w fun e w' => e = .returned (.bool true) ∧ Below w.heap.size w w' := by
  go_enter Tryd.func13, Tryd.ntmps13
  go_wp2_with fail
  refine (hS.out _).mono ?_
  rintro e w1 ⟨rfl, hb0⟩
  go_wp2_with fail
  refine (hI.out _).mono ?_
  rintro e w2 ⟨rfl, hb1⟩
  go_wp2_with fail
  go_ret
  exact ⟨rfl, hb0.trans (hb1.mono hb0.size)⟩

set_option maxHeartbeats 400000 in
theorem wFnExactReverseVotes_big (a0 : ByteArray) (w : World) (hb : 1048576 < a0.size) :
    Calls Tryd.prog 13 #[.string a0] w fun e w' => e = .returned (.bool true) ∧ Below w.heap.size w w' := by
  go_enter Tryd.func13, Tryd.ntmps13
  go_wp2
  go_ret
  exact ⟨rfl, Below.refl _ _⟩

end Go.Proofs.YtnlcainfkchieaaDoor
