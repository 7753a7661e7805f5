/- The walk of FnExactLeadersAlong: it asks the model and the program, holds them against each other, marks the result, asks again. -/
import Derived.Test.YtnlcainfkchieaaDoorStrs
namespace Go.Proofs.YtnlcainfkchieaaDoor
open Go.RowKit

set_option maxHeartbeats 1000000 in
theorem wFnExactLeadersAlong_main (a0 : ByteArray) (ok : Bool) (xs : List ByteArray) (hl : xs.length ≤ 1048577)
    (hS : Hid (∀ w, Calls Tryd.prog 23 #[.string a0] w (StrsRet w ok xs))) (hI : Hid (∀ w, Calls Tryd.prog 24 #[.string a0] w (StrsRet w ok xs))) (w : World) (hz0 : ¬ 1048576 < a0.size) :
    Calls Tryd.prog 6 #[.string a0] w fun e w' => e = .returned (.bool true) ∧ Below w.heap.size w w' := by
  have HMK : Hid (∀ (v : Value) (B : Nat) (w : World), SRow w B v xs → Calls Tryd.prog 26 #[v, .int .i64 1] w fun e w' => e = .returned (.int .i64 (1 + xs.length)) ∧ SRow w' B v (smarks 1 xs.length) ∧ w.grownBy w' v.ownBlock) := Lib.hid fun v B w h => by
    have := markStrs_any v xs B 1 w h (by omega) (by omega)
    have hc : (((1 + xs.length : Nat) : Int)) = 1 + (xs.length : Int) := by omega
    rw [hc] at this
    exact this
  have HHD : Hid (∀ (v : Value) (B : Nat) (w : World), SRow w B v (smarks 1 xs.length) → Calls Tryd.prog 27 #[v, .int .i64 1] w (Ret w (.int .i64 (1 + xs.length)))) := Lib.hid fun v B w h => by
    have := heldStrs_any v xs.length B 1 w h (by omega) (by omega)
    have hc : (((1 + xs.length : Nat) : Int)) = 1 + (xs.length : Int) := by omega
    rw [hc] at this
    exact this
  go_enter Tryd.func6, Tryd.ntmps6
  go_wp2_with fail
  refine (hS.out _).mono ?_
  rintro e w1 ⟨v0, rfl, hr0, hb0⟩
  go_wp2_with fail
  refine (hI.out _).mono ?_
  rintro e w2 ⟨v1, rfl, hr1, hb1⟩
  have k0 := hr0.blk
  have k1 := hr1.blk
  have hr0' := hr0.below hb1
  have HK := Lib.hid (And.intro k0 k1)
  clear hr0 k0 k1
  go_wp2_with fail
  refine (eqStrs_same v1 v0 xs _ _ _ hr1 hr0' (by omega)).mono ?_
  rintro e w3 ⟨rfl, n3, rfl⟩
  go_wp2_with fail
  refine (HMK.out v1 _ _ (hr1.drewN n3)).mono ?_
  rintro e w4 ⟨rfl, hr1', hg4⟩
  have hr0'' := (hr0'.drewN n3).grown_other hg4 (fun k hk => (HK.out.1 k hk).2) (fun k hk => (HK.out.2 k hk).1)
  have hb4 : Below w.heap.size w w4 := (below_drewN (hb0.trans (hb1.mono hb0.size)) n3).grown hg4 (Nat.le_trans hb0.size hb1.size) (fun k hk => Nat.le_trans hb0.size (HK.out.2 k hk).1)
  have hsz4 : w2.heap.size ≤ w4.heap.size := hg4.size
  clear hr1 hr0' hg4
  go_wp2_with fail
  refine (HHD.out v1 _ _ hr1').mono ?_
  rintro e w5 ⟨rfl, hb5⟩
  have q1 : ¬ (1 + (xs.length : Int)) < 0 := by omega
  have hr05 := hr0''.below hb5
  have hr15 := hr1'.below hb5
  have hbb5 := hb4.trans (hb5.mono hb4.size)
  clear hr0'' hr1'
  go_wp2_with fail
  refine (hI.out _).mono ?_
  rintro e w6 ⟨v2, rfl, hr2, hb6⟩
  have hr0a := hr05.below hb6
  have hr1a := hr15.below hb6
  have hbb6 := hbb5.trans (hb6.mono hbb5.size)
  go_wp2_with fail
  refine (eqStrs_same v2 v0 xs _ _ _ hr2 hr0a (by omega)).mono ?_
  rintro e w7 ⟨rfl, n7, rfl⟩
  go_wp2_with fail
  refine (HHD.out v1 _ _ (hr1a.drewN n7)).mono ?_
  rintro e w8 ⟨rfl, hb8⟩
  go_wp2_with fail
  go_ret
  exact ⟨rfl, (below_drewN hbb6 n7).trans (hb8.mono hbb6.size)⟩

set_option maxHeartbeats 400000 in
theorem wFnExactLeadersAlong_big (a0 : ByteArray) (w : World) (hb : 1048576 < a0.size) :
    Calls Tryd.prog 6 #[.string a0] w fun e w' => e = .returned (.bool true) ∧ Below w.heap.size w w' := by
  go_enter Tryd.func6, Tryd.ntmps6
  go_wp2
  go_ret
  exact ⟨rfl, Below.refl _ _⟩
end Go.Proofs.YtnlcainfkchieaaDoor
