/- The walk of FnExactTableOfVotes: it asks the model and the program, holds the answers against each other, marks them, asks again. -/
import Derived.Test.YtnlcainfkchieaaDoorInList
import Derived.Test.YtnlcainfkchieaaDoorLists
import Derived.Test.YtnlcainfkchieaaDoorTMark
namespace Go.Proofs.YtnlcainfkchieaaDoor
open Go.RowKit
set_option maxHeartbeats 2000000 in
theorem wFnExactTableOfVotes_main (a0 : ByteArray) (ok : Bool) (xss : List (List Int)) (hx1 : xss.length ≤ 1048576) (hx2 : xss.flatten.length ≤ 1048576)
    (hS : Hid (∀ w, Calls Tryd.prog 34 #[.string a0] w (TabsRet w ok xss))) (hI : Hid (∀ w, Calls Tryd.prog 35 #[.string a0] w (TabsRet w ok xss))) (w : World) (hz0 : ¬ 1048576 < a0.size) :
    Calls Tryd.prog 10 #[.string a0] w fun e w' => e = .returned (.bool true) ∧ Below w.heap.size w w' := by
  go_enter Tryd.func10, Tryd.ntmps10
  go_wp2_with fail
  refine (hS.out _).mono ?_
  rintro e w2 ⟨v2, vs2, rfl, hr2, hb2⟩
  have z2 := hb2.size
  go_wp2_with fail
  refine (hI.out _).mono ?_
  rintro e w4 ⟨v4, vs4, rfl, hr4, hb4⟩
  have hbb4 := hb2.trans (hb4.mono hb2.size)
  have hr2c := hr2.below hb4
  have z4 := hb4.size
  clear hr2 hb4 hb2
  go_wp2_with fail
  refine (eqTabs_same v4 v2 _ _ xss _ _ _ _ _ hr4 hr2c hx1 (by omega)).mono ?_
  rintro e w9 ⟨rfl, n9, rfl⟩
  have hbb9 := below_drewN hbb4 n9
  have hr4e := hr4.drewN n9
  have hr2h := hr2c.drewN n9
  have hs9 : (w4.drewN n9).heap.size = w4.heap.size := rfl
  generalize w4.drewN n9 = w9 at *
  clear hr4 hr2c hbb4
  go_wp2_with fail
  refine (markTabs_any v4 _ xss _ _ 1 _ hr4e hx1 hx2 (by omega)).mono ?_
  rintro e w10 ⟨rfl, hr4f, hm10⟩
  have hr2i := hr2h.mid hm10 (.inl (by omega))
  have hbb10 : Below w.heap.size w w10 := hm10.below hbb9 (by omega) (by omega)
  have z10 := hm10.size
  clear hr2h hbb9 hr4e
  go_wp2_with fail
  refine (heldTabs_any v4 _ xss _ _ 1 _ hr4f hx1 hx2 (by omega)).mono ?_
  rintro e w11 ⟨rfl, rfl⟩
  have q2 : ¬ (1 + (xss.flatten.length : Int)) < 0 := by omega
  have hbb12 := hbb10
  have hr4g := hr4f
  have hr2j := hr2i
  clear hr4f hr2i hbb10
  go_wp2_with fail
  refine (hI.out _).mono ?_
  rintro e w13 ⟨v13, vs13, rfl, hr13, hb13⟩
  have hbb13 := hbb12.trans (hb13.mono hbb12.size)
  have hr4h := hr4g.below hb13
  have hr2k := hr2j.below hb13
  clear hr4g hr2j hbb12 hb13
  go_wp2_with fail
  refine (eqTabs_same v13 v2 _ _ xss _ _ _ _ _ hr13 hr2k hx1 (by omega)).mono ?_
  rintro e w14 ⟨rfl, n14, rfl⟩
  go_wp2_with fail
  refine (heldTabs_any v4 _ xss _ _ 1 _ (hr4h.drewN n14) hx1 hx2 (by omega)).mono ?_
  rintro e w15 ⟨rfl, rfl⟩
  go_wp2_with fail
  go_ret
  exact ⟨rfl, below_drewN hbb13 n14⟩
set_option maxHeartbeats 400000 in
theorem wFnExactTableOfVotes_big (a0 : ByteArray) (w : World) (hb : 1048576 < a0.size) :
    Calls Tryd.prog 10 #[.string a0] w fun e w' => e = .returned (.bool true) ∧ Below w.heap.size w w' := by
  go_enter Tryd.func10, Tryd.ntmps10
  go_wp2
  go_ret
  exact ⟨rfl, Below.refl _ _⟩
end Go.Proofs.YtnlcainfkchieaaDoor
