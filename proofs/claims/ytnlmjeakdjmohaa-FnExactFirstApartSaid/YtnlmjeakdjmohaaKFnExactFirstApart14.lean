/- Pack 14 of what FnExactFirstApart needs: LFnExactFirstApart, SpMath. -/
import Derived.Test.YtnlmjeakdjmohaaKFnExactFirstApart13
/- The walk of FnExactFirstApart: it asks the model and the program about copies of two slices of cells, holds the answers against each other, marks them, asks again. -/
namespace Go.Proofs.Ytnlmjeakdjmohaa
open Go.RowKit
set_option linter.unusedVariables false
set_option maxRecDepth 100000 in
set_option maxHeartbeats 4000000 in
theorem wFnExactFirstApart_core (v1 : Value) (n : Nat) (xs : List Int) (v2 : Value) (m : Nat) (ys : List Int) (ok : Bool) (L : List Wy) (hx1 : L.length ≤ 1048576)
    (hS : Hid (∀ u1 u2 w, RCels w u1 n xs → RCels w u2 m ys → Calls Try.prog 22 #[u1, u2] w (WsRet w ok L))) (hI : Hid (∀ u1 u2 w, RCels w u1 n xs → RCels w u2 m ys → Calls Try.prog 24 #[u1, u2] w (WsRet w ok L))) (left2 : Int) (hl2 : ¬ left2 < 0) (left : Int) (hl : ¬ left < 0) (w : World) (h1 : RCels w v1 n xs) (h2 : RCels w v2 m ys) (hn : n ≤ 1048576) (hm : m ≤ 1048576)
    (HZ1 : Hid (∀ w', Below w.heap.size w w' → Calls Try.prog 21 #[v1, .int .i64 1048576] w' fun e w'' => e = .returned (.int .i64 left) ∧ w' = w'')) (HZ2 : Hid (∀ w', Below w.heap.size w w' → Calls Try.prog 21 #[v2, .int .i64 left] w' fun e w'' => e = .returned (.int .i64 left2) ∧ w' = w'')) :
    Calls Try.prog 3 #[v1, v2] w fun e w' => e = .returned (.bool true) ∧ Below w.heap.size w w' := by
  have HT1 : Hid (∀ w', Below w.heap.size w w' → Calls Try.prog 23 #[v1] w' (CsNew w' n (ccp xs n))) := Lib.hid fun w' hb => toCellS_row v1 n xs w' (h1.below hb) hn
  have HT2 : Hid (∀ w', Below w.heap.size w w' → Calls Try.prog 23 #[v2] w' (CsNew w' m (ccp ys m))) := Lib.hid fun w' hb => toCellS_row v2 m ys w' (h2.below hb) hm
  obtain ⟨A1, p1, rfl⟩ := h1.shape
  obtain ⟨A2, p2, rfl⟩ := h2.shape
  clear h1 h2
  go_enter Try.func3, Try.ntmps3
  go_wp2_with fail
  refine (HZ1.out _ (Below.refl _ _)).mono ?_
  rintro e w0 ⟨rfl, rfl⟩
  go_wp2_with fail
  refine (HZ2.out _ (Below.refl _ _)).mono ?_
  rintro e w0 ⟨rfl, rfl⟩
  clear HZ1 HZ2
  go_wp2_with fail
  refine (HT1.out _ (Below.refl _ _)).mono ?_
  rintro e w1 ⟨ua, rfl, hr, hb⟩
  have BB0 := Lib.hid hb
  have z0 := hb.size
  have Ka := Lib.hid hr.blk
  obtain ⟨Aa, ca, rfl⟩ := hr.shape
  have Ra := Lib.hid hr
  clear hr hb
  go_wp2_with fail
  refine (HT2.out _ BB0.out).mono ?_
  rintro e w2 ⟨ub, rfl, hr, hb⟩
  have BB1 := Lib.hid (BB0.out.trans (hb.mono BB0.out.size))
  have z1 := hb.size
  have Ra' := Lib.hid (Ra.out.below hb)
  clear Ra
  have Ra := Ra'
  clear Ra'
  clear BB0
  have Kb := Lib.hid hr.blk
  obtain ⟨Ab, cb, rfl⟩ := hr.shape
  have Rb := Lib.hid hr
  clear hr hb
  go_wp2_with fail
  refine (hS.out _ _ _ (crow_rcels Ra.out) (crow_rcels Rb.out)).mono ?_
  rintro e w3 ⟨us, rfl, hr, hb⟩
  have BB2 := Lib.hid (BB1.out.trans (hb.mono BB1.out.size))
  have z2 := hb.size
  have Ra' := Lib.hid (Ra.out.below hb)
  have Rb' := Lib.hid (Rb.out.below hb)
  clear Ra Rb
  have Ra := Ra'
  clear Ra'
  have Rb := Rb'
  clear Rb'
  clear BB1
  have Ks := Lib.hid hr.blk
  obtain ⟨As, cs, rfl⟩ := hr.shape
  have Rs := Lib.hid hr
  clear hr hb
  clear Ra Rb
  go_wp2_with fail
  refine (HT1.out _ BB2.out).mono ?_
  rintro e w4 ⟨ux, rfl, hr, hb⟩
  have BB3 := Lib.hid (BB2.out.trans (hb.mono BB2.out.size))
  have z3 := hb.size
  have Rs' := Lib.hid (Rs.out.below hb)
  clear Rs
  have Rs := Rs'
  clear Rs'
  clear BB2
  have Kx := Lib.hid hr.blk
  obtain ⟨Ax, cx, rfl⟩ := hr.shape
  have Rx := Lib.hid hr
  clear hr hb
  go_wp2_with fail
  refine (HT2.out _ BB3.out).mono ?_
  rintro e w5 ⟨uy, rfl, hr, hb⟩
  have BB4 := Lib.hid (BB3.out.trans (hb.mono BB3.out.size))
  have z4 := hb.size
  have Rs' := Lib.hid (Rs.out.below hb)
  have Rx' := Lib.hid (Rx.out.below hb)
  clear Rs Rx
  have Rs := Rs'
  clear Rs'
  have Rx := Rx'
  clear Rx'
  clear BB3
  have Ky := Lib.hid hr.blk
  obtain ⟨Ay, cy, rfl⟩ := hr.shape
  have Ry := Lib.hid hr
  clear hr hb
  go_wp2_with fail
  refine (hI.out _ _ _ (crow_rcels Rx.out) (crow_rcels Ry.out)).mono ?_
  rintro e w6 ⟨ug, rfl, hr, hb⟩
  have BB5 := Lib.hid (BB4.out.trans (hb.mono BB4.out.size))
  have z5 := hb.size
  have Rs' := Lib.hid (Rs.out.below hb)
  have Rx' := Lib.hid (Rx.out.below hb)
  have Ry' := Lib.hid (Ry.out.below hb)
  clear Rs Rx Ry
  have Rs := Rs'
  clear Rs'
  have Rx := Rx'
  clear Rx'
  have Ry := Ry'
  clear Ry'
  clear BB4
  have Kg := Lib.hid hr.blk
  obtain ⟨Ag, cg, rfl⟩ := hr.shape
  have Rg := Lib.hid hr
  clear hr hb
  go_wp2_with fail
  refine (eqWays_same _ _ L _ _ _ Rg.out Rs.out hx1).mono ?_
  rintro e w7 ⟨rfl, hb⟩
  have BB6 := Lib.hid (BB5.out.trans (hb.mono BB5.out.size))
  have z6 := hb.size
  have Rs' := Lib.hid (Rs.out.below hb)
  have Rx' := Lib.hid (Rx.out.below hb)
  have Ry' := Lib.hid (Ry.out.below hb)
  have Rg' := Lib.hid (Rg.out.below hb)
  clear Rs Rx Ry Rg
  have Rs := Rs'
  clear Rs'
  have Rx := Rx'
  clear Rx'
  have Ry := Ry'
  clear Ry'
  have Rg := Rg'
  clear Rg'
  clear BB5
  clear hb
  go_wp2_with fail
  refine (HT1.out _ BB6.out).mono ?_
  rintro e w8 ⟨up, rfl, hr, hb⟩
  have BB7 := Lib.hid (BB6.out.trans (hb.mono BB6.out.size))
  have z7 := hb.size
  have Rs' := Lib.hid (Rs.out.below hb)
  have Rx' := Lib.hid (Rx.out.below hb)
  have Ry' := Lib.hid (Ry.out.below hb)
  have Rg' := Lib.hid (Rg.out.below hb)
  clear Rs Rx Ry Rg
  have Rs := Rs'
  clear Rs'
  have Rx := Rx'
  clear Rx'
  have Ry := Ry'
  clear Ry'
  have Rg := Rg'
  clear Rg'
  clear BB6
  have Kp := Lib.hid hr.blk
  obtain ⟨Ap, cp, rfl⟩ := hr.shape
  have Rp := Lib.hid hr
  clear hr hb
  go_wp2_with fail
  refine (eqCels_same _ _ n _ _ _ _ Rx.out Rp.out hn).mono ?_
  rintro e w9 ⟨rfl, hb⟩
  have BB8 := Lib.hid (BB7.out.trans (hb.mono BB7.out.size))
  have z8 := hb.size
  have Rs' := Lib.hid (Rs.out.below hb)
  have Rx' := Lib.hid (Rx.out.below hb)
  have Ry' := Lib.hid (Ry.out.below hb)
  have Rg' := Lib.hid (Rg.out.below hb)
  have Rp' := Lib.hid (Rp.out.below hb)
  clear Rs Rx Ry Rg Rp
  have Rs := Rs'
  clear Rs'
  have Rx := Rx'
  clear Rx'
  have Ry := Ry'
  clear Ry'
  have Rg := Rg'
  clear Rg'
  have Rp := Rp'
  clear Rp'
  clear BB7
  clear hb
  clear Rp
  go_wp2_with fail
  refine (HT2.out _ BB8.out).mono ?_
  rintro e w10 ⟨uq, rfl, hr, hb⟩
  have BB9 := Lib.hid (BB8.out.trans (hb.mono BB8.out.size))
  have z9 := hb.size
  have Rs' := Lib.hid (Rs.out.below hb)
  have Rx' := Lib.hid (Rx.out.below hb)
  have Ry' := Lib.hid (Ry.out.below hb)
  have Rg' := Lib.hid (Rg.out.below hb)
  clear Rs Rx Ry Rg
  have Rs := Rs'
  clear Rs'
  have Rx := Rx'
  clear Rx'
  have Ry := Ry'
  clear Ry'
  have Rg := Rg'
  clear Rg'
  clear BB8
  have Kq := Lib.hid hr.blk
  obtain ⟨Aq, cq, rfl⟩ := hr.shape
  have Rq := Lib.hid hr
  clear hr hb
  go_wp2_with fail
  refine (eqCels_same _ _ m _ _ _ _ Ry.out Rq.out hm).mono ?_
  rintro e w11 ⟨rfl, hb⟩
  have BB10 := Lib.hid (BB9.out.trans (hb.mono BB9.out.size))
  have z10 := hb.size
  have Rs' := Lib.hid (Rs.out.below hb)
  have Rx' := Lib.hid (Rx.out.below hb)
  have Ry' := Lib.hid (Ry.out.below hb)
  have Rg' := Lib.hid (Rg.out.below hb)
  have Rq' := Lib.hid (Rq.out.below hb)
  clear Rs Rx Ry Rg Rq
  have Rs := Rs'
  clear Rs'
  have Rx := Rx'
  clear Rx'
  have Ry := Ry'
  clear Ry'
  have Rg := Rg'
  clear Rg'
  have Rq := Rq'
  clear Rq'
  clear BB9
  clear hb
  clear Rq
  go_wp2_with fail
  refine (markCels_big _ n _ _ (1) _ Rx.out hn (by omega)).mono ?_
  rintro e w12 ⟨rfl, hr, hg⟩
  have BB11 := Lib.hid (BB10.out.grown hg BB10.out.size (fun q hq => by have := (Kx.out q hq).1; omega))
  have z11 := hg.size
  have Rs' := Lib.hid (Rs.out.apart hg (fun q hq e2 => by have := Ks.out q hq; have := Kx.out q e2.symm; omega))
  have Ry' : Hid (CRow w12 _ _ _ _) := Lib.hid ⟨World.ownsRow.kept Ry.out.1 hg (by cases e : Value.ownBlock _ with | none => exact .inl rfl | some q => exact .inr (fun e2 => by have := Ky.out q e; have := Kx.out q e2.symm; omega)), Ry.out.2⟩
  have Rg' := Lib.hid (Rg.out.apart hg (fun q hq e2 => by have := Kg.out q hq; have := Kx.out q e2.symm; omega))
  clear Rs Ry Rg
  have Rs := Rs'
  clear Rs'
  have Ry := Ry'
  clear Ry'
  have Rg := Rg'
  clear Rg'
  clear BB10
  clear hg hr Rx
  go_wp2_with fail
  refine (markCels_big _ m _ _ (1 + (n : Int) * 2) _ Ry.out hm (by omega)).mono ?_
  rintro e w13 ⟨rfl, hr, hg⟩
  have BB12 := Lib.hid (BB11.out.grown hg BB11.out.size (fun q hq => by have := (Ky.out q hq).1; omega))
  have z12 := hg.size
  have Rs' := Lib.hid (Rs.out.apart hg (fun q hq e2 => by have := Ks.out q hq; have := Ky.out q e2.symm; omega))
  have Rg' := Lib.hid (Rg.out.apart hg (fun q hq e2 => by have := Kg.out q hq; have := Ky.out q e2.symm; omega))
  clear Rs Rg
  have Rs := Rs'
  clear Rs'
  have Rg := Rg'
  clear Rg'
  clear BB11
  clear hg hr Ry
  have q1 : ¬ (1 + (n : Int) * 2 + (m : Int) * 2) < 0 := by omega
  go_wp2_with fail
  refine (eqWays_same _ _ L _ _ _ Rg.out Rs.out hx1).mono ?_
  rintro e w14 ⟨rfl, hb⟩
  have BB13 := Lib.hid (BB12.out.trans (hb.mono BB12.out.size))
  have z13 := hb.size
  have Rs' := Lib.hid (Rs.out.below hb)
  have Rg' := Lib.hid (Rg.out.below hb)
  clear Rs Rg
  have Rs := Rs'
  clear Rs'
  have Rg := Rg'
  clear Rg'
  clear BB12
  clear hb
  go_wp2_with fail
  refine (markWays_any _ L _ 1 _ Rg.out hx1 (by omega)).mono ?_
  rintro e w15 ⟨rfl, hr, hg⟩
  have BB14 := Lib.hid (BB13.out.grown hg BB13.out.size (fun q hq => by have := (Kg.out q hq).1; omega))
  have z14 := hg.size
  have Rs' := Lib.hid (Rs.out.apart hg (fun q hq e2 => by have := Ks.out q hq; have := Kg.out q e2.symm; omega))
  clear Rs
  have Rs := Rs'
  clear Rs'
  clear BB13
  clear Rg hg
  have Rg := Lib.hid hr
  clear hr
  have q2 : ¬ (((1 + L.length * 3 : Nat) : Int)) < 0 := by omega
  go_wp2_with fail
  refine (heldWays_any _ L.length _ 1 _ Rg.out hx1 (by omega)).mono ?_
  rintro e w16 ⟨rfl, hb⟩
  have BB15 := Lib.hid (BB14.out.trans (hb.mono BB14.out.size))
  have z15 := hb.size
  have Rs' := Lib.hid (Rs.out.below hb)
  have Rg' := Lib.hid (Rg.out.below hb)
  clear Rs Rg
  have Rs := Rs'
  clear Rs'
  have Rg := Rg'
  clear Rg'
  clear BB14
  clear hb
  go_wp2_with fail
  refine (HT1.out _ BB15.out).mono ?_
  rintro e w17 ⟨ui, rfl, hr, hb⟩
  have BB16 := Lib.hid (BB15.out.trans (hb.mono BB15.out.size))
  have z16 := hb.size
  have Rs' := Lib.hid (Rs.out.below hb)
  have Rg' := Lib.hid (Rg.out.below hb)
  clear Rs Rg
  have Rs := Rs'
  clear Rs'
  have Rg := Rg'
  clear Rg'
  clear BB15
  have Ki := Lib.hid hr.blk
  obtain ⟨Ai, ci, rfl⟩ := hr.shape
  have Ri := Lib.hid hr
  clear hr hb
  go_wp2_with fail
  refine (HT2.out _ BB16.out).mono ?_
  rintro e w18 ⟨uj, rfl, hr, hb⟩
  have BB17 := Lib.hid (BB16.out.trans (hb.mono BB16.out.size))
  have z17 := hb.size
  have Rs' := Lib.hid (Rs.out.below hb)
  have Rg' := Lib.hid (Rg.out.below hb)
  have Ri' := Lib.hid (Ri.out.below hb)
  clear Rs Rg Ri
  have Rs := Rs'
  clear Rs'
  have Rg := Rg'
  clear Rg'
  have Ri := Ri'
  clear Ri'
  clear BB16
  have Kj := Lib.hid hr.blk
  obtain ⟨Aj, cj, rfl⟩ := hr.shape
  have Rj := Lib.hid hr
  clear hr hb
  go_wp2_with fail
  refine (hI.out _ _ _ (crow_rcels Ri.out) (crow_rcels Rj.out)).mono ?_
  rintro e w19 ⟨uh, rfl, hr, hb⟩
  have BB18 := Lib.hid (BB17.out.trans (hb.mono BB17.out.size))
  have z18 := hb.size
  have Rs' := Lib.hid (Rs.out.below hb)
  have Rg' := Lib.hid (Rg.out.below hb)
  have Ri' := Lib.hid (Ri.out.below hb)
  have Rj' := Lib.hid (Rj.out.below hb)
  clear Rs Rg Ri Rj
  have Rs := Rs'
  clear Rs'
  have Rg := Rg'
  clear Rg'
  have Ri := Ri'
  clear Ri'
  have Rj := Rj'
  clear Rj'
  clear BB17
  have Kh := Lib.hid hr.blk
  obtain ⟨Ah, ch, rfl⟩ := hr.shape
  have Rh := Lib.hid hr
  clear hr hb
  clear Ri Rj
  go_wp2_with fail
  refine (eqWays_same _ _ L _ _ _ Rh.out Rs.out hx1).mono ?_
  rintro e w20 ⟨rfl, hb⟩
  have BB19 := Lib.hid (BB18.out.trans (hb.mono BB18.out.size))
  have z19 := hb.size
  have Rs' := Lib.hid (Rs.out.below hb)
  have Rg' := Lib.hid (Rg.out.below hb)
  have Rh' := Lib.hid (Rh.out.below hb)
  clear Rs Rg Rh
  have Rs := Rs'
  clear Rs'
  have Rg := Rg'
  clear Rg'
  have Rh := Rh'
  clear Rh'
  clear BB18
  clear hb
  go_wp2_with fail
  refine (heldWays_any _ L.length _ 1 _ Rg.out hx1 (by omega)).mono ?_
  rintro e w21 ⟨rfl, hb⟩
  have BB20 := Lib.hid (BB19.out.trans (hb.mono BB19.out.size))
  have z20 := hb.size
  have Rs' := Lib.hid (Rs.out.below hb)
  have Rg' := Lib.hid (Rg.out.below hb)
  have Rh' := Lib.hid (Rh.out.below hb)
  clear Rs Rg Rh
  have Rs := Rs'
  clear Rs'
  have Rg := Rg'
  clear Rg'
  have Rh := Rh'
  clear Rh'
  clear BB19
  clear hb
  go_wp2_with fail
  go_ret
  exact ⟨rfl, BB20.out⟩
set_option maxRecDepth 100000 in
set_option maxHeartbeats 1000000 in
theorem wFnExactFirstApart_main (v1 : Value) (n : Nat) (xs : List Int) (v2 : Value) (m : Nat) (ys : List Int) (w : World) (h1 : RCels w v1 n xs) (h2 : RCels w v2 m ys)
    (hW : n ≤ 1048576 → m ≤ 1048576 → ∀ (left2 : Int), ¬ left2 < 0 → ∀ (left : Int), ¬ left < 0 → (HZ1 : Hid (∀ w', Below w.heap.size w w' → Calls Try.prog 21 #[v1, .int .i64 1048576] w' fun e w'' => e = .returned (.int .i64 left) ∧ w' = w'')) → (HZ2 : Hid (∀ w', Below w.heap.size w w' → Calls Try.prog 21 #[v2, .int .i64 left] w' fun e w'' => e = .returned (.int .i64 left2) ∧ w' = w'')) → Calls Try.prog 3 #[v1, v2] w fun e w' => e = .returned (.bool true) ∧ Below w.heap.size w w') :
    Calls Try.prog 3 #[v1, v2] w fun e w' => e = .returned (.bool true) ∧ Below w.heap.size w w' := by
  have HZ1 : Hid (∀ w', Below w.heap.size w w' → Calls Try.prog 21 #[v1, .int .i64 1048576] w' fun e w'' => e = .returned (.int .i64 (szC n 1048576)) ∧ w' = w'') := Lib.hid fun w' hb => szCellS_any v1 n xs 1048576 w' (h1.below hb) ⟨by omega, by omega⟩
  have hs1 : ¬ szC n 1048576 < 0 → n ≤ 1048576 ∧ 0 ≤ szC n 1048576 ∧ szC n 1048576 ≤ 1048576 := by
    unfold szC
    split <;> omega
  by_cases hb1 : szC n 1048576 < 0
  · generalize szC n 1048576 = left at *
    clear hW hs1
    obtain ⟨A1, p1, rfl⟩ := h1.shape
    obtain ⟨A2, p2, rfl⟩ := h2.shape
    clear h1 h2
    go_enter Try.func3, Try.ntmps3
    go_wp2_with fail
    refine (HZ1.out _ (Below.refl _ _)).mono ?_
    rintro e w0 ⟨rfl, rfl⟩
    go_wp2_with fail
    go_ret
    exact ⟨rfl, Below.refl _ _⟩
  obtain ⟨hn, hl0, hl1⟩ := hs1 hb1
  generalize szC n 1048576 = left at *
  have HZ2 : Hid (∀ w', Below w.heap.size w w' → Calls Try.prog 21 #[v2, .int .i64 left] w' fun e w'' => e = .returned (.int .i64 (szC m left)) ∧ w' = w'') := Lib.hid fun w' hb => szCellS_any v2 m ys left w' (h2.below hb) ⟨hl0, hl1⟩
  have hs2 : ¬ szC m left < 0 → m ≤ 1048576 := by
    unfold szC
    split <;> omega
  by_cases hb2 : szC m left < 0
  · generalize szC m left = left2 at *
    clear hW hs2
    obtain ⟨A1, p1, rfl⟩ := h1.shape
    obtain ⟨A2, p2, rfl⟩ := h2.shape
    clear h1 h2
    go_enter Try.func3, Try.ntmps3
    go_wp2_with fail
    refine (HZ1.out _ (Below.refl _ _)).mono ?_
    rintro e w0 ⟨rfl, rfl⟩
    go_wp2_with fail
    refine (HZ2.out _ (Below.refl _ _)).mono ?_
    rintro e w0 ⟨rfl, rfl⟩
    go_wp2_with fail
    go_ret
    exact ⟨rfl, Below.refl _ _⟩
  exact hW hn (hs2 hb2) _ hb2 _ hb1 HZ1 HZ2
end Go.Proofs.Ytnlmjeakdjmohaa

/- Texts of ways that keep off taken cells, in order. -/
namespace Go.Proofs.Ytnlmjeakdjmohaa
open Go.RowKit
set_option linter.unusedVariables false
/-- the steps of all ways from x, y to u, v that keep off taken cells, in order -/
def spF (tk : Int → Int → Bool) (u v : Int) : Nat → Int → Int → List (List UInt8)
  | 0, _, _ => []
  | f + 1, x, y => if u < x ∨ v < y ∨ tk x y = true then [] else if x = u ∧ y = v then [[]] else (spF tk u v f (x + 1) y).map (List.cons 69) ++ (spF tk u v f x (y + 1)).map (List.cons 78)
/-- the cells of such a way -/
def pcs : Int → Int → List UInt8 → List (Int × Int)
  | x, y, [] => [(x, y)]
  | x, y, c :: p => (x, y) :: (if c = 69 then pcs (x + 1) y p else pcs x (y + 1) p)
theorem spF_no {tk : Int → Int → Bool} {u v x y : Int} {f : Nat} (h : u < x ∨ v < y ∨ tk x y = true) : spF tk u v f x y = [] := by
  cases f with
  | zero => rfl
  | succ f => rw [spF, if_pos h]
theorem spF_end {tk : Int → Int → Bool} {u v : Int} {f : Nat} (h : tk u v = false) : spF tk u v (f + 1) u v = [[]] := by
  rw [spF, if_neg (by rw [h]; simp), if_pos ⟨rfl, rfl⟩]
theorem spF_step {tk : Int → Int → Bool} {u v x y : Int} {f : Nat} (h : ¬ (u < x ∨ v < y ∨ tk x y = true)) (h2 : ¬ (x = u ∧ y = v)) : spF tk u v (f + 1) x y = (spF tk u v f (x + 1) y).map (List.cons 69) ++ (spF tk u v f x (y + 1)).map (List.cons 78) := by
  rw [spF, if_neg h, if_neg h2]
/-- what a way of the list is -/
theorem spF_mem {tk : Int → Int → Bool} {u v : Int} : ∀ (f : Nat) (x y : Int) (p : List UInt8), p ∈ spF tk u v f x y → x ≤ u ∧ y ≤ v ∧ (p.length : Int) = (u - x) + (v - y) ∧ ∀ c ∈ p, c = 69 ∨ c = 78
  | 0, x, y, p, h => by cases h
  | f + 1, x, y, p, h => by
    rw [spF] at h
    split at h
    · cases h
    · next h0 =>
      split at h
      · next h1 =>
        rw [List.mem_singleton] at h
        subst h
        obtain ⟨rfl, rfl⟩ := h1
        exact ⟨by omega, by omega, by simp, fun c hc => by cases hc⟩
      · rw [List.mem_append] at h
        rcases h with h | h
        · rw [List.mem_map] at h
          obtain ⟨q, hq, rfl⟩ := h
          obtain ⟨h1, h2, h3, h4⟩ := spF_mem f _ _ q hq
          refine ⟨by omega, by omega, by rw [List.length_cons]; omega, fun c hc => ?_⟩
          rcases List.mem_cons.1 hc with rfl | hc
          · exact .inl rfl
          · exact h4 c hc
        · rw [List.mem_map] at h
          obtain ⟨q, hq, rfl⟩ := h
          obtain ⟨h1, h2, h3, h4⟩ := spF_mem f _ _ q hq
          refine ⟨by omega, by omega, by rw [List.length_cons]; omega, fun c hc => ?_⟩
          rcases List.mem_cons.1 hc with rfl | hc
          · exact .inr rfl
          · exact h4 c hc
/-- more taken cells: those ways go -/
theorem spF_filter (tk t2 : Int → Int → Bool) (u v : Int) : ∀ (f : Nat) (x y : Int),
    spF (fun a b => tk a b || t2 a b) u v f x y = (spF tk u v f x y).filter fun p => (pcs x y p).all fun c => !t2 c.1 c.2
  | 0, x, y => rfl
  | f + 1, x, y => by
    by_cases h : u < x ∨ v < y ∨ tk x y = true
    · rw [spF_no h, spF_no (by rcases h with h | h | h <;> simp [h])]
      rfl
    · cases ht : t2 x y with
      | true =>
        rw [spF_no (tk := fun a b => tk a b || t2 a b) (by simp [ht])]
        symm
        rw [List.filter_eq_nil_iff]
        intro p hp
        cases p with
        | nil => simp [pcs, ht]
        | cons c p => simp [pcs, ht]
      | false =>
        have h' : ¬ (u < x ∨ v < y ∨ (tk x y || t2 x y) = true) := by rw [ht, Bool.or_false]; exact h
        by_cases h2 : x = u ∧ y = v
        · obtain ⟨rfl, rfl⟩ := h2
          have htk : tk x y = false := by
            rcases hh : tk x y with _ | _
            · rfl
            · exact absurd (.inr (.inr hh)) h
          rw [spF_end htk, spF_end (by rw [htk, ht]; rfl)]
          simp [pcs, ht]
        · rw [spF_step h h2, spF_step h' h2, spF_filter tk t2 u v f, spF_filter tk t2 u v f, List.filter_append, List.filter_map, List.filter_map]
          congr 2
          · congr 1
            funext p
            simp [pcs, ht]
          · congr 1
            funext p
            simp [pcs, ht]
/-- all ways of the list come to what the first one comes to straight to the north -/
theorem spF_north {tk : Int → Int → Bool} {u v : Int} : ∀ (f : Nat) (x y y' : Int) (s : List UInt8), (spF tk u v f x y).head? = some s → (x, y') ∈ pcs x y s → ∀ p ∈ spF tk u v f x y, (x, y') ∈ pcs x y p
  | 0, x, y, y', s, h, _ => by cases h
  | f + 1, x, y, y', s, h, hm => by
    intro p hp
    by_cases hy : y' = y
    · subst hy
      cases p with
      | nil => simp [pcs]
      | cons c p => simp [pcs]
    rw [spF] at h hp
    split at h
    · cases h
    · next h0 =>
      rw [if_neg h0] at hp
      split at h
      · next h1 =>
        rw [if_pos h1] at hp
        rw [List.mem_singleton] at hp
        injection h with h
        subst h
        subst hp
        exact hm
      · next h1 =>
        rw [if_neg h1] at hp
        cases hE : spF tk u v f (x + 1) y with
        | cons a A =>
          rw [hE] at h
          simp at h
          subst h
          rw [pcs, if_pos rfl] at hm
          rcases List.mem_cons.1 hm with e | hm
          · injection e with e1 e2
            exact absurd e2 hy
          · exfalso
            have : ∀ (q : List UInt8) (a b : Int), (x, y') ∈ pcs a b q → a ≤ x := by
              intro q
              induction q with
              | nil =>
                intro a b hq
                simp [pcs] at hq
                omega
              | cons c q ih =>
                intro a b hq
                rw [pcs] at hq
                rcases List.mem_cons.1 hq with e | hq
                · injection e with e1 e2
                  omega
                · split at hq
                  · have := ih _ _ hq
                    omega
                  · exact ih _ _ hq
            have := this _ _ _ hm
            omega
        | nil =>
          rw [hE] at h hp
          rw [List.map_nil, List.nil_append] at h hp
          rw [List.head?_map] at h
          cases hN : (spF tk u v f x (y + 1)).head? with
          | none => rw [hN] at h; cases h
          | some s2 =>
            rw [hN] at h
            injection h with h
            subst h
            rw [pcs, if_neg (by decide)] at hm
            rcases List.mem_cons.1 hm with e | hm
            · injection e with e1 e2
              exact absurd e2 hy
            · rw [List.mem_map] at hp
              obtain ⟨q, hq, rfl⟩ := hp
              rw [pcs, if_neg (by decide)]
              exact List.mem_cons_of_mem _ (spF_north f x (y + 1) y' s2 hN hm q hq)
theorem pcs_ge {x' y' : Int} : ∀ (q : List UInt8) (a b : Int), (x', y') ∈ pcs a b q → a ≤ x' ∧ b ≤ y'
  | [], a, b, h => by simp [pcs] at h; omega
  | c :: q, a, b, h => by
    rw [pcs] at h
    rcases List.mem_cons.1 h with e | h
    · injection e with e1 e2
      omega
    · split at h
      · have := pcs_ge q _ _ h
        omega
      · have := pcs_ge q _ _ h
        omega
end Go.Proofs.Ytnlmjeakdjmohaa
