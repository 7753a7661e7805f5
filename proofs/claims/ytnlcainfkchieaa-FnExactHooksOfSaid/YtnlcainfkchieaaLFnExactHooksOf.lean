/- The walk of FnExactHooksOf: it asks the model and the program, holds the answers against each other, marks them, asks again. -/
import Derived.Test.YtnlcainfkchieaaInList
import Derived.Test.YtnlcainfkchieaaLists
import Derived.Test.YtnlcainfkchieaaTMark
namespace Go.Proofs.Ytnlcainfkchieaa
open Go.RowKit
set_option maxHeartbeats 2000000 in
theorem wFnExactHooksOf_main (v : Value) (zs : List Int) (ok : Bool) (xss : List (List Int)) (hx1 : xss.length ≤ 1048576) (hx2 : xss.flatten.length ≤ 1048576)
    (hS : Hid (∀ v w, RInts w v zs → Calls Try.prog 17 #[v] w (TabsRet w ok xss))) (hI : Hid (∀ v w, RInts w v zs → Calls Try.prog 18 #[v] w (TabsRet w ok xss))) (w : World) (h : RInts w v zs) (hl : zs.length ≤ 1048576) :
    Calls Try.prog 5 #[v] w fun e w' => e = .returned (.bool true) ∧ Below w.heap.size w w' := by
  obtain ⟨A0, cap, rfl⟩ := h.shape
  have H := Lib.hid h
  clear h
  have hl' : ¬ (1048576 : Int) < (zs.length : Int) := by omega
  go_enter Try.func5, Try.ntmps5
  go_wp2_with fail
  refine (toIntS_any _ zs _ H.out hl).mono ?_
  rintro e w1 ⟨v1, rfl, hr1, hb1⟩
  go_wp2_with fail
  refine (hS.out v1 _ (RInts.of_row hr1)).mono ?_
  rintro e w2 ⟨v2, vs2, rfl, hr2, hb2⟩
  have hbb2 := hb1.trans (hb2.mono hb1.size)
  clear hr1
  go_wp2_with fail
  refine (toIntS_any _ zs _ (H.out.below hbb2) hl).mono ?_
  rintro e w3 ⟨v3, rfl, hr3, hb3⟩
  have hbb3 := hbb2.trans (hb3.mono hbb2.size)
  have hr2b := hr2.below hb3
  clear hr2
  go_wp2_with fail
  refine (hI.out v3 _ (RInts.of_row hr3)).mono ?_
  rintro e w4 ⟨v4, vs4, rfl, hr4, hb4⟩
  have hbb4 := hbb3.trans (hb4.mono hbb3.size)
  have K3 := Lib.hid hr3.blk
  have hr3b := hr3.below hb4
  have hr2c := hr2b.below hb4
  have z1 := hb1.size
  have z2 := hb2.size
  have z3 := hb3.size
  have z4 := hb4.size
  clear hr3 hr2b hb1 hb2 hb3 hb4 hbb2 hbb3
  go_wp2_with fail
  refine (eqTabs_same v4 v2 _ _ xss _ _ _ _ _ hr4 hr2c hx1 (by omega)).mono ?_
  rintro e w5 ⟨rfl, n5, rfl⟩
  have hbb5 := below_drewN hbb4 n5
  have hr4a := hr4.drewN n5
  have hr2d := hr2c.drewN n5
  have hr3c := hr3b.drewN n5
  have hs5 : (w4.drewN n5).heap.size = w4.heap.size := rfl
  generalize w4.drewN n5 = w5 at *
  clear hr4 hr2c hr3b hbb4
  go_wp2_with fail
  refine (toIntS_any _ zs _ (H.out.below hbb5) hl).mono ?_
  rintro e w6 ⟨v6, rfl, hr6, hb6⟩
  have hbb6 := hbb5.trans (hb6.mono hbb5.size)
  have hr4b := hr4a.below hb6
  have hr2e := hr2d.below hb6
  have hr3d := hr3c.below hb6
  have z6 := hb6.size
  clear hr4a hr2d hr3c hbb5 hb6
  go_wp2_with fail
  refine (eqInts_same v3 v6 zs _ _ _ hr3d hr6 (by omega)).mono ?_
  rintro e w7 ⟨rfl, n7, rfl⟩
  have hbb7 := below_drewN hbb6 n7
  have hr4c := hr4b.drewN n7
  have hr2f := hr2e.drewN n7
  have hr3e := hr3d.drewN n7
  have hs7 : (w6.drewN n7).heap.size = w6.heap.size := rfl
  generalize w6.drewN n7 = w7 at *
  clear hr4b hr2e hr3d hbb6 hr6
  go_wp2_with fail
  refine (markInts_any v3 zs _ 1 _ hr3e (by omega) (by omega)).mono ?_
  rintro e w8 ⟨rfl, hr3f, hg8⟩
  have hr2g := hr2f.keep hg8 (fun k hk => .inr (K3.out k hk).1)
  have hr4d := hr4c.keep hg8 (fun k hk => .inl (K3.out k hk).2)
  have hbb8 : Below w.heap.size w w8 := hbb7.grown hg8 (by omega) (fun k hk => by have := (K3.out k hk).1; omega)
  have z8 := hg8.size
  have q1 : ¬ (1 + (zs.length : Int)) < 0 := by omega
  clear hr2f hr4c hbb7 hg8 hr3e
  go_wp2_with fail
  refine (eqTabs_same v4 v2 _ _ xss _ _ _ _ _ hr4d hr2g hx1 (by omega)).mono ?_
  rintro e w9 ⟨rfl, n9, rfl⟩
  have hbb9 := below_drewN hbb8 n9
  have hr4e := hr4d.drewN n9
  have hr2h := hr2g.drewN n9
  have hs9 : (w8.drewN n9).heap.size = w8.heap.size := rfl
  generalize w8.drewN n9 = w9 at *
  clear hr4d hr2g hbb8 hr3f
  go_wp2_with fail
  refine (markTabs_any v4 _ xss _ _ 1 _ hr4e hx1 hx2 (by omega)).mono ?_
  rintro e w10 ⟨rfl, hr4f, hm10⟩
  have hr2i := hr2h.mid hm10 (.inl (by omega))
  have hbb10 : Below w.heap.size w w10 := hm10.below hbb9 (by omega) (by omega)
  have z10 := hm10.size
  clear hr2h hbb9 hr4e
  go_wp2_with fail
  refine (heldTabs_any v4 _ xss _ _ 1 _ hr4f hx1 hx2 (by omega)).mono ?_
  rintro e w11 ⟨rfl, rfl⟩
  have q2 : ¬ (1 + (xss.flatten.length : Int)) < 0 := by omega
  go_wp2_with fail
  refine (toIntS_any _ zs _ (H.out.below hbb10) hl).mono ?_
  rintro e w12 ⟨v12, rfl, hr12, hb12⟩
  have hbb12 := hbb10.trans (hb12.mono hbb10.size)
  have hr4g := hr4f.below hb12
  have hr2j := hr2i.below hb12
  have z12 := hb12.size
  clear hr4f hr2i hbb10 hb12
  go_wp2_with fail
  refine (hI.out v12 _ (RInts.of_row hr12)).mono ?_
  rintro e w13 ⟨v13, vs13, rfl, hr13, hb13⟩
  have hbb13 := hbb12.trans (hb13.mono hbb12.size)
  have hr4h := hr4g.below hb13
  have hr2k := hr2j.below hb13
  clear hr4g hr2j hbb12 hb13
  go_wp2_with fail
  refine (eqTabs_same v13 v2 _ _ xss _ _ _ _ _ hr13 hr2k hx1 (by omega)).mono ?_
  rintro e w14 ⟨rfl, n14, rfl⟩
  go_wp2_with fail
  refine (heldTabs_any v4 _ xss _ _ 1 _ (hr4h.drewN n14) hx1 hx2 (by omega)).mono ?_
  rintro e w15 ⟨rfl, rfl⟩
  go_wp2_with fail
  go_ret
  exact ⟨rfl, below_drewN hbb13 n14⟩
set_option maxHeartbeats 400000 in
theorem wFnExactHooksOf_big (A : Option Addr) (len cap : Nat) (w : World) (h : 1048576 < len) :
    Calls Try.prog 5 #[.slice A len cap] w fun e w' => e = .returned (.bool true) ∧ Below w.heap.size w w' := by
  go_enter Try.func5, Try.ntmps5
  go_wp2
  go_ret
  exact ⟨rfl, Below.refl _ _⟩
end Go.Proofs.Ytnlcainfkchieaa
