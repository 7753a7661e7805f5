/- The walk of FnExactWaysMatrix: it asks the model and the program about copies of two slices of cells, holds the answers against each other, marks them, asks again. -/
import Derived.Test.YtahnknbggacndaaToC2
import Derived.Test.YtahnknbggacndaaTMark
namespace Go.Proofs.Ytahnknbggacndaa
open Go.RowKit
set_option linter.unusedVariables false
set_option maxRecDepth 100000 in
set_option maxHeartbeats 4000000 in
theorem wFnExactWaysMatrix_core (v1 : Value) (n : Nat) (xs : List Int) (v2 : Value) (m : Nat) (ys : List Int) (ok : Bool) (xss : List (List Int)) (hx1 : xss.length ≤ 1048576) (hx2 : xss.flatten.length ≤ 1048576)
    (hS : Hid (∀ u1 u2 w, RCels w u1 n xs → RCels w u2 m ys → Calls Try.prog 54 #[u1, u2] w (TabsRet w ok xss))) (hI : Hid (∀ u1 u2 w, RCels w u1 n xs → RCels w u2 m ys → Calls Try.prog 56 #[u1, u2] w (TabsRet w ok xss))) (left2 : Int) (hl2 : ¬ left2 < 0) (left : Int) (hl : ¬ left < 0) (w : World) (h1 : RCels w v1 n xs) (h2 : RCels w v2 m ys) (hn : n ≤ 1048576) (hm : m ≤ 1048576)
    (HZ1 : Hid (∀ w', Below w.heap.size w w' → Calls Try.prog 53 #[v1, .int .i64 1048576] w' fun e w'' => e = .returned (.int .i64 left) ∧ w' = w'')) (HZ2 : Hid (∀ w', Below w.heap.size w w' → Calls Try.prog 53 #[v2, .int .i64 left] w' fun e w'' => e = .returned (.int .i64 left2) ∧ w' = w'')) :
    Calls Try.prog 13 #[v1, v2] w fun e w' => e = .returned (.bool true) ∧ Below w.heap.size w w' := by
  have HT1 : Hid (∀ w', Below w.heap.size w w' → Calls Try.prog 55 #[v1] w' (CsNew w' n (ccp xs n))) := Lib.hid fun w' hb => toCellS_row v1 n xs w' (h1.below hb) hn
  have HT2 : Hid (∀ w', Below w.heap.size w w' → Calls Try.prog 55 #[v2] w' (CsNew w' m (ccp ys m))) := Lib.hid fun w' hb => toCellS_row v2 m ys w' (h2.below hb) hm
  obtain ⟨A1, p1, rfl⟩ := h1.shape
  obtain ⟨A2, p2, rfl⟩ := h2.shape
  clear h1 h2
  go_enter Try.func13, Try.ntmps13
  go_wp2_with fail
  refine (HZ1.out _ (Below.refl _ _)).mono ?_
  rintro e w0 ⟨rfl, rfl⟩
  go_wp2_with fail
  refine (HZ2.out _ (Below.refl _ _)).mono ?_
  rintro e w0 ⟨rfl, rfl⟩
  clear HZ1 HZ2
  go_wp2_with fail
  refine (HT1.out _ (Below.refl _ _)).mono ?_
  rintro e w1 ⟨ua, rfl, hr, hb⟩
  have BB0 := Lib.hid hb
  have z0 := hb.size
  have Ka := Lib.hid hr.blk
  obtain ⟨Aa, ca, rfl⟩ := hr.shape
  have Ra := Lib.hid hr
  clear hr hb
  go_wp2_with fail
  refine (HT2.out _ BB0.out).mono ?_
  rintro e w2 ⟨ub, rfl, hr, hb⟩
  have BB1 := Lib.hid (BB0.out.trans (hb.mono BB0.out.size))
  have z1 := hb.size
  have Ra' := Lib.hid (Ra.out.below hb)
  clear Ra
  have Ra := Ra'
  clear Ra'
  clear BB0
  have Kb := Lib.hid hr.blk
  obtain ⟨Ab, cb, rfl⟩ := hr.shape
  have Rb := Lib.hid hr
  clear hr hb
  go_wp2_with fail
  refine (hS.out _ _ _ (crow_rcels Ra.out) (crow_rcels Rb.out)).mono ?_
  rintro e w3 ⟨us, vss, rfl, hr, hb⟩
  have BB2 := Lib.hid (BB1.out.trans (hb.mono BB1.out.size))
  have z2 := hb.size
  have Ra' := Lib.hid (Ra.out.below hb)
  have Rb' := Lib.hid (Rb.out.below hb)
  clear Ra Rb
  have Ra := Ra'
  clear Ra'
  have Rb := Rb'
  clear Rb'
  clear BB1
  obtain ⟨As, cs, rfl⟩ := hr.out.shape
  have Rs := Lib.hid hr
  clear hr hb
  clear Ra Rb
  go_wp2_with fail
  refine (HT1.out _ BB2.out).mono ?_
  rintro e w4 ⟨ux, rfl, hr, hb⟩
  have BB3 := Lib.hid (BB2.out.trans (hb.mono BB2.out.size))
  have z3 := hb.size
  have Rs' := Lib.hid (Rs.out.below hb)
  clear Rs
  have Rs := Rs'
  clear Rs'
  clear BB2
  have Kx := Lib.hid hr.blk
  obtain ⟨Ax, cx, rfl⟩ := hr.shape
  have Rx := Lib.hid hr
  clear hr hb
  go_wp2_with fail
  refine (HT2.out _ BB3.out).mono ?_
  rintro e w5 ⟨uy, rfl, hr, hb⟩
  have BB4 := Lib.hid (BB3.out.trans (hb.mono BB3.out.size))
  have z4 := hb.size
  have Rs' := Lib.hid (Rs.out.below hb)
  have Rx' := Lib.hid (Rx.out.below hb)
  clear Rs Rx
  have Rs := Rs'
  clear Rs'
  have Rx := Rx'
  clear Rx'
  clear BB3
  have Ky := Lib.hid hr.blk
  obtain ⟨Ay, cy, rfl⟩ := hr.shape
  have Ry := Lib.hid hr
  clear hr hb
  go_wp2_with fail
  refine (hI.out _ _ _ (crow_rcels Rx.out) (crow_rcels Ry.out)).mono ?_
  rintro e w6 ⟨ug, vsg, rfl, hr, hb⟩
  have BB5 := Lib.hid (BB4.out.trans (hb.mono BB4.out.size))
  have z5 := hb.size
  have Rs' := Lib.hid (Rs.out.below hb)
  have Rx' := Lib.hid (Rx.out.below hb)
  have Ry' := Lib.hid (Ry.out.below hb)
  clear Rs Rx Ry
  have Rs := Rs'
  clear Rs'
  have Rx := Rx'
  clear Rx'
  have Ry := Ry'
  clear Ry'
  clear BB4
  obtain ⟨Ag, cg, rfl⟩ := hr.out.shape
  have Rg := Lib.hid hr
  clear hr hb
  go_wp2_with fail
  refine (eqTabs_same _ _ _ _ xss _ _ _ _ _ Rg.out Rs.out hx1 (by omega)).mono ?_
  rintro e w7 ⟨rfl, nd, rfl⟩
  have hb := below_drewN (Below.refl w6.heap.size w6) nd
  have BB6 := Lib.hid (BB5.out.trans (hb.mono BB5.out.size))
  have z6 := hb.size
  have Rs' := Lib.hid (Rs.out.below hb)
  have Rx' := Lib.hid (Rx.out.below hb)
  have Ry' := Lib.hid (Ry.out.below hb)
  have Rg' := Lib.hid (Rg.out.below hb)
  clear Rs Rx Ry Rg
  have Rs := Rs'
  clear Rs'
  have Rx := Rx'
  clear Rx'
  have Ry := Ry'
  clear Ry'
  have Rg := Rg'
  clear Rg'
  clear BB5
  clear hb
  generalize w6.drewN nd = w7 at *
  go_wp2_with fail
  refine (HT1.out _ BB6.out).mono ?_
  rintro e w8 ⟨up, rfl, hr, hb⟩
  have BB7 := Lib.hid (BB6.out.trans (hb.mono BB6.out.size))
  have z7 := hb.size
  have Rs' := Lib.hid (Rs.out.below hb)
  have Rx' := Lib.hid (Rx.out.below hb)
  have Ry' := Lib.hid (Ry.out.below hb)
  have Rg' := Lib.hid (Rg.out.below hb)
  clear Rs Rx Ry Rg
  have Rs := Rs'
  clear Rs'
  have Rx := Rx'
  clear Rx'
  have Ry := Ry'
  clear Ry'
  have Rg := Rg'
  clear Rg'
  clear BB6
  have Kp := Lib.hid hr.blk
  obtain ⟨Ap, cp, rfl⟩ := hr.shape
  have Rp := Lib.hid hr
  clear hr hb
  go_wp2_with fail
  refine (eqCels_same _ _ n _ _ _ _ Rx.out Rp.out hn).mono ?_
  rintro e w9 ⟨rfl, hb⟩
  have BB8 := Lib.hid (BB7.out.trans (hb.mono BB7.out.size))
  have z8 := hb.size
  have Rs' := Lib.hid (Rs.out.below hb)
  have Rx' := Lib.hid (Rx.out.below hb)
  have Ry' := Lib.hid (Ry.out.below hb)
  have Rg' := Lib.hid (Rg.out.below hb)
  have Rp' := Lib.hid (Rp.out.below hb)
  clear Rs Rx Ry Rg Rp
  have Rs := Rs'
  clear Rs'
  have Rx := Rx'
  clear Rx'
  have Ry := Ry'
  clear Ry'
  have Rg := Rg'
  clear Rg'
  have Rp := Rp'
  clear Rp'
  clear BB7
  clear hb
  clear Rp
  go_wp2_with fail
  refine (HT2.out _ BB8.out).mono ?_
  rintro e w10 ⟨uq, rfl, hr, hb⟩
  have BB9 := Lib.hid (BB8.out.trans (hb.mono BB8.out.size))
  have z9 := hb.size
  have Rs' := Lib.hid (Rs.out.below hb)
  have Rx' := Lib.hid (Rx.out.below hb)
  have Ry' := Lib.hid (Ry.out.below hb)
  have Rg' := Lib.hid (Rg.out.below hb)
  clear Rs Rx Ry Rg
  have Rs := Rs'
  clear Rs'
  have Rx := Rx'
  clear Rx'
  have Ry := Ry'
  clear Ry'
  have Rg := Rg'
  clear Rg'
  clear BB8
  have Kq := Lib.hid hr.blk
  obtain ⟨Aq, cq, rfl⟩ := hr.shape
  have Rq := Lib.hid hr
  clear hr hb
  go_wp2_with fail
  refine (eqCels_same _ _ m _ _ _ _ Ry.out Rq.out hm).mono ?_
  rintro e w11 ⟨rfl, hb⟩
  have BB10 := Lib.hid (BB9.out.trans (hb.mono BB9.out.size))
  have z10 := hb.size
  have Rs' := Lib.hid (Rs.out.below hb)
  have Rx' := Lib.hid (Rx.out.below hb)
  have Ry' := Lib.hid (Ry.out.below hb)
  have Rg' := Lib.hid (Rg.out.below hb)
  have Rq' := Lib.hid (Rq.out.below hb)
  clear Rs Rx Ry Rg Rq
  have Rs := Rs'
  clear Rs'
  have Rx := Rx'
  clear Rx'
  have Ry := Ry'
  clear Ry'
  have Rg := Rg'
  clear Rg'
  have Rq := Rq'
  clear Rq'
  clear BB9
  clear hb
  clear Rq
  go_wp2_with fail
  refine (markCels_big _ n _ _ (1) _ Rx.out hn (by omega)).mono ?_
  rintro e w12 ⟨rfl, hr, hg⟩
  have BB11 := Lib.hid (BB10.out.grown hg BB10.out.size (fun q hq => by have := (Kx.out q hq).1; omega))
  have z11 := hg.size
  have Rs' := Lib.hid (Rs.out.keep hg (fun q hq => by have := Kx.out q hq; omega))
  have Ry' : Hid (CRow w12 _ _ _ _) := Lib.hid ⟨World.ownsRow.kept Ry.out.1 hg (by cases e : Value.ownBlock _ with | none => exact .inl rfl | some q => exact .inr (fun e2 => by have := Ky.out q e; have := Kx.out q e2.symm; omega)), Ry.out.2⟩
  have Rg' := Lib.hid (Rg.out.keep hg (fun q hq => by have := Kx.out q hq; omega))
  clear Rs Ry Rg
  have Rs := Rs'
  clear Rs'
  have Ry := Ry'
  clear Ry'
  have Rg := Rg'
  clear Rg'
  clear BB10
  clear hg hr Rx
  go_wp2_with fail
  refine (markCels_big _ m _ _ (1 + (n : Int) * 2) _ Ry.out hm (by omega)).mono ?_
  rintro e w13 ⟨rfl, hr, hg⟩
  have BB12 := Lib.hid (BB11.out.grown hg BB11.out.size (fun q hq => by have := (Ky.out q hq).1; omega))
  have z12 := hg.size
  have Rs' := Lib.hid (Rs.out.keep hg (fun q hq => by have := Ky.out q hq; omega))
  have Rg' := Lib.hid (Rg.out.keep hg (fun q hq => by have := Ky.out q hq; omega))
  clear Rs Rg
  have Rs := Rs'
  clear Rs'
  have Rg := Rg'
  clear Rg'
  clear BB11
  clear hg hr Ry
  have q1 : ¬ (1 + (n : Int) * 2 + (m : Int) * 2) < 0 := by omega
  go_wp2_with fail
  refine (eqTabs_same _ _ _ _ xss _ _ _ _ _ Rg.out Rs.out hx1 (by omega)).mono ?_
  rintro e w14 ⟨rfl, nd, rfl⟩
  have hb := below_drewN (Below.refl w13.heap.size w13) nd
  have BB13 := Lib.hid (BB12.out.trans (hb.mono BB12.out.size))
  have z13 := hb.size
  have Rs' := Lib.hid (Rs.out.below hb)
  have Rg' := Lib.hid (Rg.out.below hb)
  clear Rs Rg
  have Rs := Rs'
  clear Rs'
  have Rg := Rg'
  clear Rg'
  clear BB12
  clear hb
  generalize w13.drewN nd = w14 at *
  go_wp2_with fail
  refine (markTabs_any _ _ xss _ _ 1 _ Rg.out hx1 hx2 (by omega)).mono ?_
  rintro e w15 ⟨rfl, hr, hm10⟩
  have BB14 := Lib.hid (hm10.below BB13.out (by omega) (by omega))
  have z14 := hm10.size
  have Rs' := Lib.hid (Rs.out.mid hm10 (.inl (by omega)))
  clear Rs Rg BB13
  have Rs := Rs'
  have Rg := Lib.hid hr
  clear Rs' hr hm10
  go_wp2_with fail
  refine (heldTabs_any _ _ xss _ _ 1 _ Rg.out hx1 hx2 (by omega)).mono ?_
  rintro e w15h ⟨rfl, rfl⟩
  have q2 : ¬ (1 + (xss.flatten.length : Int)) < 0 := by omega
  go_wp2_with fail
  refine (HT1.out _ BB14.out).mono ?_
  rintro e w16 ⟨ui, rfl, hr, hb⟩
  have BB15 := Lib.hid (BB14.out.trans (hb.mono BB14.out.size))
  have z15 := hb.size
  have Rs' := Lib.hid (Rs.out.below hb)
  have Rg' := Lib.hid (Rg.out.below hb)
  clear Rs Rg
  have Rs := Rs'
  clear Rs'
  have Rg := Rg'
  clear Rg'
  clear BB14
  have Ki := Lib.hid hr.blk
  obtain ⟨Ai, ci, rfl⟩ := hr.shape
  have Ri := Lib.hid hr
  clear hr hb
  go_wp2_with fail
  refine (HT2.out _ BB15.out).mono ?_
  rintro e w17 ⟨uj, rfl, hr, hb⟩
  have BB16 := Lib.hid (BB15.out.trans (hb.mono BB15.out.size))
  have z16 := hb.size
  have Rs' := Lib.hid (Rs.out.below hb)
  have Rg' := Lib.hid (Rg.out.below hb)
  have Ri' := Lib.hid (Ri.out.below hb)
  clear Rs Rg Ri
  have Rs := Rs'
  clear Rs'
  have Rg := Rg'
  clear Rg'
  have Ri := Ri'
  clear Ri'
  clear BB15
  have Kj := Lib.hid hr.blk
  obtain ⟨Aj, cj, rfl⟩ := hr.shape
  have Rj := Lib.hid hr
  clear hr hb
  go_wp2_with fail
  refine (hI.out _ _ _ (crow_rcels Ri.out) (crow_rcels Rj.out)).mono ?_
  rintro e w18 ⟨uh, vsh, rfl, hr, hb⟩
  have BB17 := Lib.hid (BB16.out.trans (hb.mono BB16.out.size))
  have z17 := hb.size
  have Rs' := Lib.hid (Rs.out.below hb)
  have Rg' := Lib.hid (Rg.out.below hb)
  have Ri' := Lib.hid (Ri.out.below hb)
  have Rj' := Lib.hid (Rj.out.below hb)
  clear Rs Rg Ri Rj
  have Rs := Rs'
  clear Rs'
  have Rg := Rg'
  clear Rg'
  have Ri := Ri'
  clear Ri'
  have Rj := Rj'
  clear Rj'
  clear BB16
  obtain ⟨Ah, ch, rfl⟩ := hr.out.shape
  have Rh := Lib.hid hr
  clear hr hb
  clear Ri Rj
  go_wp2_with fail
  refine (eqTabs_same _ _ _ _ xss _ _ _ _ _ Rh.out Rs.out hx1 (by omega)).mono ?_
  rintro e w19 ⟨rfl, nd, rfl⟩
  have hb := below_drewN (Below.refl w18.heap.size w18) nd
  have BB18 := Lib.hid (BB17.out.trans (hb.mono BB17.out.size))
  have z18 := hb.size
  have Rs' := Lib.hid (Rs.out.below hb)
  have Rg' := Lib.hid (Rg.out.below hb)
  have Rh' := Lib.hid (Rh.out.below hb)
  clear Rs Rg Rh
  have Rs := Rs'
  clear Rs'
  have Rg := Rg'
  clear Rg'
  have Rh := Rh'
  clear Rh'
  clear BB17
  clear hb
  generalize w18.drewN nd = w19 at *
  go_wp2_with fail
  refine (heldTabs_any _ _ xss _ _ 1 _ Rg.out hx1 hx2 (by omega)).mono ?_
  rintro e w19h ⟨rfl, rfl⟩
  go_wp2_with fail
  go_ret
  exact ⟨rfl, BB18.out⟩
set_option maxRecDepth 100000 in
set_option maxHeartbeats 1000000 in
theorem wFnExactWaysMatrix_main (v1 : Value) (n : Nat) (xs : List Int) (v2 : Value) (m : Nat) (ys : List Int) (w : World) (h1 : RCels w v1 n xs) (h2 : RCels w v2 m ys)
    (hW : n ≤ 1048576 → m ≤ 1048576 → ∀ (left2 : Int), ¬ left2 < 0 → ∀ (left : Int), ¬ left < 0 → (HZ1 : Hid (∀ w', Below w.heap.size w w' → Calls Try.prog 53 #[v1, .int .i64 1048576] w' fun e w'' => e = .returned (.int .i64 left) ∧ w' = w'')) → (HZ2 : Hid (∀ w', Below w.heap.size w w' → Calls Try.prog 53 #[v2, .int .i64 left] w' fun e w'' => e = .returned (.int .i64 left2) ∧ w' = w'')) → Calls Try.prog 13 #[v1, v2] w fun e w' => e = .returned (.bool true) ∧ Below w.heap.size w w') :
    Calls Try.prog 13 #[v1, v2] w fun e w' => e = .returned (.bool true) ∧ Below w.heap.size w w' := by
  have HZ1 : Hid (∀ w', Below w.heap.size w w' → Calls Try.prog 53 #[v1, .int .i64 1048576] w' fun e w'' => e = .returned (.int .i64 (szC n 1048576)) ∧ w' = w'') := Lib.hid fun w' hb => szCellS_any v1 n xs 1048576 w' (h1.below hb) ⟨by omega, by omega⟩
  have hs1 : ¬ szC n 1048576 < 0 → n ≤ 1048576 ∧ 0 ≤ szC n 1048576 ∧ szC n 1048576 ≤ 1048576 := by
    unfold szC
    split <;> omega
  by_cases hb1 : szC n 1048576 < 0
  · generalize szC n 1048576 = left at *
    clear hW hs1
    obtain ⟨A1, p1, rfl⟩ := h1.shape
    obtain ⟨A2, p2, rfl⟩ := h2.shape
    clear h1 h2
    go_enter Try.func13, Try.ntmps13
    go_wp2_with fail
    refine (HZ1.out _ (Below.refl _ _)).mono ?_
    rintro e w0 ⟨rfl, rfl⟩
    go_wp2_with fail
    go_ret
    exact ⟨rfl, Below.refl _ _⟩
  obtain ⟨hn, hl0, hl1⟩ := hs1 hb1
  generalize szC n 1048576 = left at *
  have HZ2 : Hid (∀ w', Below w.heap.size w w' → Calls Try.prog 53 #[v2, .int .i64 left] w' fun e w'' => e = .returned (.int .i64 (szC m left)) ∧ w' = w'') := Lib.hid fun w' hb => szCellS_any v2 m ys left w' (h2.below hb) ⟨hl0, hl1⟩
  have hs2 : ¬ szC m left < 0 → m ≤ 1048576 := by
    unfold szC
    split <;> omega
  by_cases hb2 : szC m left < 0
  · generalize szC m left = left2 at *
    clear hW hs2
    obtain ⟨A1, p1, rfl⟩ := h1.shape
    obtain ⟨A2, p2, rfl⟩ := h2.shape
    clear h1 h2
    go_enter Try.func13, Try.ntmps13
    go_wp2_with fail
    refine (HZ1.out _ (Below.refl _ _)).mono ?_
    rintro e w0 ⟨rfl, rfl⟩
    go_wp2_with fail
    refine (HZ2.out _ (Below.refl _ _)).mono ?_
    rintro e w0 ⟨rfl, rfl⟩
    go_wp2_with fail
    go_ret
    exact ⟨rfl, Below.refl _ _⟩
  exact hW hn (hs2 hb2) _ hb2 _ hb1 HZ1 HZ2
end Go.Proofs.Ytahnknbggacndaa
