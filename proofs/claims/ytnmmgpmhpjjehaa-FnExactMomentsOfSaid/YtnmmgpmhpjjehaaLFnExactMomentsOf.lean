/- The walk of FnExactMomentsOf: it asks the model and the program about copies of levels, holds the answers against each other, marks them, asks again. -/
import Derived.Test.YtnmmgpmhpjjehaaLvMark
import Derived.Deep.RegionLaw
namespace Go.Proofs.Ytnmmgpmhpjjehaa
open Go.RowKit
set_option linter.unusedVariables false
set_option maxRecDepth 100000 in
set_option maxHeartbeats 4000000 in
theorem wFnExactMomentsOf_main (x : Value) (fs ds : List Int) (a1 : Int) (ok : Bool) (xs : List Int) (hx : xs.length ≤ 1048577)
    (hS : Hid (∀ x w, RLev w x fs ds → Calls Try.prog 47 #[x, .int .i64 a1] w (IntsRet w ok xs))) (hI : Hid (∀ x w, RLev w x fs ds → Calls Try.prog 48 #[x, .int .i64 a1] w (IntsRet w ok xs))) (w : World) (h : RLev w x fs ds) (hl : fs.length + ds.length ≤ 1048576) :
    Calls Try.prog 11 #[x, .int .i64 a1] w fun e w' => e = .returned (.bool true) ∧ Below w.heap.size w w' := by
  have H := Lib.hid h
  obtain ⟨v, u, rfl, hF, hD⟩ := h
  clear hF hD
  have h1 : fs.length ≤ 1048576 := by omega
  have h2 : ds.length ≤ 1048576 := by omega
  obtain ⟨w0, hw0⟩ : ∃ W, W = w.alloc (.cells #[v, u] 42) := ⟨_, rfl⟩
  have B0 : Below w.heap.size w w0 := by rw [hw0]; exact (Below.refl _ _).alloc (Nat.le_refl _) _
  have z0 : w0.heap.size = w.heap.size + 1 := by rw [hw0]; simp
  have C0 : Hid (VCells w.heap.size w.heap.size v u v u w0) := Lib.hid (by rw [hw0]; exact VCells.start w v u)
  have HSZ := Lib.hid (szLevels_ret _ fs ds 1048576 w0 (H.out.below B0) (by omega))
  rw [szLv_yes hl] at HSZ
  have hnn : ¬ (1048576 : Int) - fs.length - ds.length < 0 := by omega
  have HW0 := Lib.hid hw0
  clear hw0
  have cc0 := C0.out.c0
  have cc1 := C0.out.c1
  go_enter Try.func11, Try.ntmps11
  go_wp2_with fail
  rw [← HW0.out]
  refine HSZ.out.mono ?_
  rintro e w1 ⟨rfl, hb1⟩
  have z1 := hb1.size
  have B1 := B0.trans (hb1.mono (by omega))
  have C1 := Lib.hid (C0.out.below hb1)
  clear hb1 cc0 cc1
  have cc0 := C1.out.c0
  have cc1 := C1.out.c1
  go_wp2_with fail
  refine (toLevels_ret _ fs ds _ (H.out.below B1) h1 h2).mono ?_
  rintro e w2 ⟨x2, rfl, o2, hb2⟩
  have z2 := hb2.size
  have B2 := B1.trans (hb2.mono (by omega))
  have C2 := Lib.hid (C1.out.below hb2)
  clear hb2 cc0 cc1
  go_wp2_with fail
  refine (hS.out _ _ o2.read).mono ?_
  rintro e w3 ⟨v2, rfl, r2, hb3⟩
  have z3 := hb3.size
  have B3 := B2.trans (hb3.mono (by omega))
  have C3 := Lib.hid (C2.out.below hb3)
  have K2 := Lib.hid r2.blk
  clear hb3 o2
  have cc0 := C3.out.c0
  have cc1 := C3.out.c1
  go_wp2_with fail
  refine (toLevels_ret _ fs ds _ (H.out.below B3) h1 h2).mono ?_
  rintro e w4 ⟨x4, rfl, o4, hb4⟩
  have z4 := hb4.size
  have B4 := B3.trans (hb4.mono (by omega))
  have C4 := Lib.hid (C3.out.below hb4)
  have r2b := r2.below hb4
  clear hb4 r2 cc0 cc1
  have O4 := Lib.hid o4
  obtain ⟨v4, u4, rfl, q4, r4, hne4⟩ := o4
  have K4 := Lib.hid q4.blk
  have K5 := Lib.hid r4.blk
  have HNE := Lib.hid hne4
  obtain ⟨A4, k4, rfl⟩ := q4.shape
  obtain ⟨A5, k5, rfl⟩ := r4.shape
  clear q4 r4 hne4
  obtain ⟨w5, hw5⟩ : ∃ W, W = w4.alloc (.cells #[.slice A4 fs.length k4, .slice A5 ds.length k5] 45) := ⟨_, rfl⟩
  have b5 : Below w4.heap.size w4 w5 := by rw [hw5]; exact (Below.refl _ _).alloc (Nat.le_refl _) _
  have z5 : w5.heap.size = w4.heap.size + 1 := by rw [hw5]; simp
  have B5 := B4.trans (b5.mono (by omega))
  have O5 := Lib.hid (O4.out.below b5)
  have r2c := r2b.below b5
  have C5 : Hid (VCells w.heap.size w4.heap.size v u (.slice A4 fs.length k4) (.slice A5 ds.length k5) w5) := Lib.hid (by rw [hw5]; exact C4.out.box)
  have HW5 := Lib.hid hw5
  clear hw5 b5 r2b
  have cc0 := C5.out.d0
  have cc1 := C5.out.d1
  go_wp2_with fail
  rw [← HW5.out]
  refine (hI.out _ _ O5.out.read).mono ?_
  rintro e w6 ⟨v6, rfl, r6, hb6⟩
  have z6 := hb6.size
  have B6 := B5.trans (hb6.mono (by omega))
  have C6 := Lib.hid (C5.out.below hb6)
  have O6 := Lib.hid (O5.out.below hb6)
  have r2d := r2c.below hb6
  have K6 := Lib.hid r6.blk
  clear hb6 cc0 cc1 r2c HSZ
  go_wp2_with fail
  refine (eqInts_same v6 v2 xs _ _ _ r6 r2d (by omega)).mono ?_
  rintro e w7 ⟨rfl, n7, rfl⟩
  have B7 := below_drewN B6 n7
  have C7 := Lib.hid (C6.out.drewN n7)
  have O7 : Hid (OLev (w6.drewN n7) w3.heap.size _ fs ds) := Lib.hid (show OLev (w6.drewN n7) w3.heap.size _ fs ds from O6.out)
  have r6b := r6.drewN n7
  have r2e := r2d.drewN n7
  have s7 : (w6.drewN n7).heap.size = w6.heap.size := rfl
  generalize w6.drewN n7 = w7 at *
  clear r6 r2d O6 C6 B6
  have cc0 := C7.out.c0
  have cc1 := C7.out.c1
  have cc2 := C7.out.d0
  have cc3 := C7.out.d1
  have B8 := B7.drew
  have HTL := Lib.hid (toLevels_ret (.agg #[v, u]) fs ds w7.drew (H.out.below B8) h1 h2)
  have HEQ : Hid (∀ x' w9, OLev w9 w7.drew.heap.size x' fs ds → Below w7.drew.heap.size w7.drew w9 → Calls Try.prog 44 #[.agg #[.slice A4 fs.length k4, .slice A5 ds.length k5], x'] w9 (Ret w9 (.bool true))) := Lib.hid fun x' w9 ho hb => eqLevels_same _ _ fs ds _ _ w9 ((show OLev w7.drew w3.heap.size _ fs ds from O7.out).below hb) ho h1 h2
  have HCX : Hid (∀ w9, Below w7.drew.heap.size w7.drew w9 → VCells w.heap.size w4.heap.size v u (.slice A4 fs.length k4) (.slice A5 ds.length k5) w9) := Lib.hid fun w9 hb => C7.out.drew.below hb
  have R6 := Lib.hid r6b
  have R2 := Lib.hid r2e
  clear r6b r2e
  go_wp2_with fail
  go_region_law (first
    | (go_simp; go_at_call 42; refine HTL.out.mono ?_; rintro e w9 ⟨x9, rfl, o9, hb9⟩; have cx := HCX.out _ hb9; have j0 := cx.c0; have j1 := cx.c1; have j2 := cx.d0; have j3 := cx.d1)
    | (go_simp; go_at_call 44; refine (HEQ.out _ _ o9 hb9).mono ?_; rintro e w10 ⟨rfl, hb10⟩))
  all_goals
    have hbx : Below w7.heap.size w7 w10 := (show Below w7.heap.size w7 w9 from (Below.refl _ _).drew.trans hb9).trans (hb10.mono hb9.size)
    have z10 := hbx.size
    have B10 := B7.trans (hbx.mono (by omega))
    have C10 := Lib.hid (C7.out.below hbx)
    have R6b := Lib.hid (R6.out.below hbx)
    have R2b := Lib.hid (R2.out.below hbx)
    have O10 := Lib.hid (O7.out.below hbx)
    clear cc0 cc1 cc2 cc3 j0 j1 j2 j3 hb9 hb10 o9 hbx cx
    have cc2 := C10.out.d0
    have cc3 := C10.out.d1
    obtain ⟨v4', u4', he, qa, qb, _⟩ := O10.out
    injection he with he
    injection he with he
    injection he with he1 he2
    injection he2 with he2 he3
    subst he1
    subst he2
    have HM := Lib.hid (markLevels_any _ _ fs ds _ 1 w10 qa qb HNE.out h1 h2 (by omega))
    clear qa qb he3
    go_wp2_with fail
    refine HM.out.mono ?_
    rintro e w11 hm
    obtain rfl := hm.1
    have d1 : ∀ q, (Value.slice A4 fs.length k4).ownBlock = some q → w3.heap.size ≤ q ∧ q < w4.heap.size := K4.out
    have d2 : ∀ q, (Value.slice A5 ds.length k5).ownBlock = some q → w3.heap.size ≤ q ∧ q < w4.heap.size := K5.out
    have R6c := Lib.hid (hm.row R6b.out (fun q hq e => by have := d1 q hq; have := (K6.out q e).1; omega) (fun q hq e => by have := d2 q hq; have := (K6.out q e).1; omega))
    have R2c := Lib.hid (hm.row R2b.out (fun q hq e => by have := d1 q hq; have := (K2.out q e).2; omega) (fun q hq e => by have := d2 q hq; have := (K2.out q e).2; omega))
    have B11 := hm.low B10 (by omega) (fun q hq => by have := d1 q hq; omega) (fun q hq => by have := d2 q hq; omega)
    have C11 := Lib.hid (hm.cells C10.out (fun q hq => by have := d1 q hq; omega) (fun q hq => by have := d2 q hq; omega))
    have z11 := hm.size
    have q1 : ¬ (1 : Int) + fs.length + ds.length < 0 := by omega
    clear hm cc2 cc3
    go_wp2_with fail
    refine (eqInts_same v6 v2 xs _ _ _ R6c.out R2c.out (by omega)).mono ?_
    rintro e w12 ⟨rfl, n12, rfl⟩
    have B12 := below_drewN B11 n12
    have C12 := Lib.hid (C11.out.drewN n12)
    have R6d := Lib.hid (R6c.out.drewN n12)
    have R2d := Lib.hid (R2c.out.drewN n12)
    have s12 : (w11.drewN n12).heap.size = w11.heap.size := rfl
    generalize w11.drewN n12 = w12 at *
    clear R6c R2c C11 B11
    go_wp2_with fail
    refine (markInts_any v6 xs _ 1 _ R6d.out (by omega) (by omega)).mono ?_
    rintro e w13 ⟨rfl, r6f, hg13⟩
    have R2e := Lib.hid (irow_kept2 R2d.out hg13 (fun q hq e => by have := (K6.out q hq).1; have := (K2.out q e).2; omega))
    have B13 : Below w.heap.size w w13 := B12.grown hg13 (by omega) (fun q hq => by have := (K6.out q hq).1; omega)
    have C13 := Lib.hid (C12.out.grown hg13 (fun e => by have := (K6.out _ e.symm).1; omega) (fun e => by have := (K6.out _ e.symm).1; omega))
    have z13 := hg13.size
    have R6f := Lib.hid r6f
    clear hg13 r6f
    go_wp2_with fail
    refine (heldInts_any v6 xs.length _ 1 _ R6f.out (by omega) (by omega)).mono ?_
    rintro e w14 ⟨rfl, rfl⟩
    have q2 : ¬ (1 + (xs.length : Int)) < 0 := by omega
    have cc0 := C13.out.c0
    have cc1 := C13.out.c1
    go_wp2_with fail
    refine (toLevels_ret _ fs ds _ (H.out.below B13) h1 h2).mono ?_
    rintro e w15 ⟨x15, rfl, o15, hb15⟩
    have B15 := B13.trans (hb15.mono (by omega))
    have R6g := Lib.hid (R6f.out.below hb15)
    have R2f := Lib.hid (R2e.out.below hb15)
    have z15 := hb15.size
    clear hb15 cc0 cc1
    go_wp2_with fail
    refine (hI.out _ _ o15.read).mono ?_
    rintro e w16 ⟨v16, rfl, r16, hb16⟩
    have B16 := B15.trans (hb16.mono (by omega))
    have R6h := Lib.hid (R6g.out.below hb16)
    have R2g := Lib.hid (R2f.out.below hb16)
    clear hb16 o15
    go_wp2_with fail
    refine (eqInts_same v16 v2 xs _ _ _ r16 R2g.out (by omega)).mono ?_
    rintro e w17 ⟨rfl, n17, rfl⟩
    go_wp2_with fail
    refine (heldInts_any v6 xs.length _ 1 _ (R6h.out.drewN n17) (by omega) (by omega)).mono ?_
    rintro e w18 ⟨rfl, rfl⟩
    go_wp2_with fail
    go_ret
    exact ⟨rfl, below_drewN B16 n17⟩
set_option maxHeartbeats 400000 in
theorem wFnExactMomentsOf_big (x : Value) (fs ds : List Int) (a1 : Int) (w : World) (h : RLev w x fs ds) (hl : ¬ fs.length + ds.length ≤ 1048576) :
    Calls Try.prog 11 #[x, .int .i64 a1] w fun e w' => e = .returned (.bool true) ∧ Below w.heap.size w w' := by
  have H := Lib.hid h
  obtain ⟨v, u, rfl, hF, hD⟩ := h
  clear hF hD
  have B0 : Below w.heap.size w (w.alloc (.cells #[v, u] 42)) := (Below.refl _ _).alloc (Nat.le_refl _) _
  have HSZ := Lib.hid (szLevels_ret _ fs ds 1048576 _ (H.out.below B0) (by omega))
  have hneg := szLv_no hl
  generalize szLv 1048576 fs.length ds.length = z at *
  go_enter Try.func11, Try.ntmps11
  go_wp2_with fail
  refine HSZ.out.mono ?_
  rintro e w1 ⟨rfl, hb1⟩
  go_wp2_with fail
  go_ret
  exact ⟨rfl, B0.trans (hb1.mono (by simp))⟩
end Go.Proofs.Ytnmmgpmhpjjehaa
