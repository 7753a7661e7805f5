/- The walk of FnExactAreVotes. -/
import Derived.Test.YtnlcainfkchieaaDoorVoI
import Derived.Test.YtnlcainfkchieaaDoorVoS
namespace Go.Proofs.YtnlcainfkchieaaDoor
open Go.RowKit
set_option maxHeartbeats 400000 in
theorem wFnExactAreVotes (s : ByteArray) (w : World) (hs : s.size ≤ maxLen) :
    Calls Tryd.prog 3 #[.string s] w fun e w' => e = .returned (.bool true) ∧ Below w.heap.size w w' := by
  have HS : Hid (∀ w, Calls Tryd.prog 14 #[.string s] w (Ret w (.bool (votB s)))) := Lib.hid fun w => specAreVotes_ret s w hs
  have HI : Hid (∀ w, Calls Tryd.prog 15 #[.string s] w (Ret w (.bool (votB s)))) := Lib.hid fun w => areVotes_any s w hs
  generalize votB s = b at *
  by_cases hbig : 1048576 < s.size
  · go_enter Tryd.func3, Tryd.ntmps3
    go_wp2
    go_ret
    exact ⟨rfl, Below.refl _ _⟩
  · cases b
    all_goals
      go_enter Tryd.func3, Tryd.ntmps3
      go_wp2_with fail
      refine (HS.out _).mono ?_
      rintro e w1 ⟨rfl, hb0⟩
      go_wp2_with fail
      refine (HI.out _).mono ?_
      rintro e w2 ⟨rfl, hb1⟩
      go_wp2_with fail
      go_ret
      exact ⟨rfl, hb0.trans (hb1.mono hb0.size)⟩
end Go.Proofs.YtnlcainfkchieaaDoor
