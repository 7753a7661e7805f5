/- The walk of FnExactCountsOfVotes: it asks the model and the program, holds them against each other, marks the result, asks again. -/
import Derived.Test.YtnlcainfkchieaaDoorLists
namespace Go.Proofs.YtnlcainfkchieaaDoor
open Go.RowKit

set_option maxHeartbeats 1000000 in
theorem wFnExactCountsOfVotes_main (a0 : ByteArray) (ok : Bool) (xs : List Int) (hl : xs.length ≤ 1048577)
    (hS : Hid (∀ w, Calls Tryd.prog 16 #[.string a0] w (IntsRet w ok xs))) (hI : Hid (∀ w, Calls Tryd.prog 17 #[.string a0] w (IntsRet w ok xs))) (w : World) (hz0 : ¬ 1048576 < a0.size) :
    Calls Tryd.prog 4 #[.string a0] w fun e w' => e = .returned (.bool true) ∧ Below w.heap.size w w' := by
  go_enter Tryd.func4, Tryd.ntmps4
  go_wp2_with fail
  refine (hS.out _).mono ?_
  rintro e w1 ⟨v0, rfl, hr0, hb0⟩
  go_wp2_with fail
  refine (hI.out _).mono ?_
  rintro e w2 ⟨v1, rfl, hr1, hb1⟩
  have k0 := hr0.blk
  have k1 := hr1.blk
  have hr0' := hr0.below hb1
  have HK := Lib.hid (And.intro k0 k1)
  clear hr0 k0 k1
  go_wp2_with fail
  refine (eqInts_same v1 v0 xs _ _ _ hr1 hr0' (by omega)).mono ?_
  rintro e w3 ⟨rfl, n3, rfl⟩
  go_wp2_with fail
  refine (markInts_any v1 xs _ 1 _ (hr1.drewN n3) (by omega) (by omega)).mono ?_
  rintro e w4 ⟨rfl, hr1', hg4⟩
  have hr0'' := (hr0'.drewN n3).grown_other hg4 (fun k hk => (HK.out.1 k hk).2) (fun k hk => (HK.out.2 k hk).1)
  have hb4 : Below w.heap.size w w4 := (below_drewN (hb0.trans (hb1.mono hb0.size)) n3).grown hg4 (Nat.le_trans hb0.size hb1.size) (fun k hk => Nat.le_trans hb0.size (HK.out.2 k hk).1)
  have hsz4 : w2.heap.size ≤ w4.heap.size := hg4.size
  clear hr1 hr0' hg4
  go_wp2_with fail
  refine (heldInts_any v1 xs.length _ 1 _ hr1' (by omega) (by omega)).mono ?_
  rintro e w5 ⟨rfl, rfl⟩
  have q1 : ¬ (1 + (xs.length : Int)) < 0 := by omega
  go_wp2_with fail
  refine (hI.out _).mono ?_
  rintro e w6 ⟨v2, rfl, hr2, hb6⟩
  have hr0a := hr0''.below hb6
  have hr1a := hr1'.below hb6
  go_wp2_with fail
  refine (eqInts_same v2 v0 xs _ _ _ hr2 hr0a (by omega)).mono ?_
  rintro e w7 ⟨rfl, n7, rfl⟩
  go_wp2_with fail
  refine (heldInts_any v1 xs.length _ 1 _ (hr1a.drewN n7) (by omega) (by omega)).mono ?_
  rintro e w8 ⟨rfl, rfl⟩
  go_wp2_with fail
  go_ret
  exact ⟨rfl, below_drewN (hb4.trans (hb6.mono (by have := hb0.size; have := hb1.size; omega))) n7⟩

set_option maxHeartbeats 400000 in
theorem wFnExactCountsOfVotes_big (a0 : ByteArray) (w : World) (hb : 1048576 < a0.size) :
    Calls Tryd.prog 4 #[.string a0] w fun e w' => e = .returned (.bool true) ∧ Below w.heap.size w w' := by
  go_enter Tryd.func4, Tryd.ntmps4
  go_wp2
  go_ret
  exact ⟨rfl, Below.refl _ _⟩
end Go.Proofs.YtnlcainfkchieaaDoor
