/- The walk of FnExactLevelsOf: it asks the model and the program about copies of a list, holds the answers against each other, marks them, asks again. -/
import Derived.Test.YtnmmgpmhpjjehaaInList
import Derived.Test.YtnmmgpmhpjjehaaLists
import Derived.Test.YtnmmgpmhpjjehaaLvBox
namespace Go.Proofs.Ytnmmgpmhpjjehaa
open Go.RowKit
set_option linter.unusedVariables false
set_option maxRecDepth 100000 in
set_option maxHeartbeats 4000000 in
theorem wFnExactLevelsOf_main (v : Value) (zs : List Int) (ok : Bool) (fs ds : List Int) (h1 : fs.length ≤ 1048576) (h2 : ds.length ≤ 1048576)
    (hS : Hid (∀ v w, RInts w v zs → Calls Try.prog 58 #[v] w (LevsRet w ok fs ds))) (hI : Hid (∀ v w, RInts w v zs → Calls Try.prog 59 #[v] w (LevsRet w ok fs ds))) (w : World) (h : RInts w v zs) (hl : zs.length ≤ 1048576) :
    Calls Try.prog 14 #[v] w fun e w' => e = .returned (.bool true) ∧ Below w.heap.size w w' := by
  obtain ⟨A0, cap, rfl⟩ := h.shape
  have H := Lib.hid h
  clear h
  have hl' : ¬ (1048576 : Int) < (zs.length : Int) := by omega
  go_enter Try.func14, Try.ntmps14
  go_wp2_with fail
  refine (toIntS_any _ zs _ H.out hl).mono ?_
  rintro e w1 ⟨v1, rfl, hr1, hb1⟩
  have z1 := hb1.size
  have B1 := hb1
  go_wp2_with fail
  refine (hS.out v1 _ (RInts.of_row hr1)).mono ?_
  rintro e w2 ⟨x2, rfl, o2, hb2⟩
  have z2 := hb2.size
  have B2 := B1.trans (hb2.mono z1)
  obtain ⟨v2, u2, rfl, q2, r2, hne2⟩ := o2
  have K2 := Lib.hid q2.blk
  have L2 := Lib.hid r2.blk
  have R2 : Hid (LRow w2 w1.heap.size v2 u2 fs ds) := Lib.hid ⟨q2, r2, hne2⟩
  obtain ⟨A2, k2, rfl⟩ := q2.shape
  obtain ⟨A3, k3, rfl⟩ := r2.shape
  clear hr1 q2 r2 hne2 hb1
  obtain ⟨w3, hw3⟩ : ∃ W, W = w2.alloc (.cells #[.slice A2 fs.length k2, .slice A3 ds.length k3] 45) := ⟨_, rfl⟩
  have b3 : Below w2.heap.size w2 w3 := by rw [hw3]; exact (Below.refl _ _).alloc (Nat.le_refl _) _
  have z3 : w3.heap.size = w2.heap.size + 1 := by rw [hw3]; simp
  have B3 := B2.trans (b3.mono (by omega))
  have X3 : Hid (VBox w2.heap.size (.slice A2 fs.length k2) (.slice A3 ds.length k3) w3) := Lib.hid (by rw [hw3]; exact VBox.start _ _ _)
  have R3 := Lib.hid (R2.out.below b3)
  have HW3 := Lib.hid hw3
  clear hw3 b3 R2 hb2
  go_wp2_with fail
  rw [← HW3.out]
  refine (toIntS_any _ zs _ (H.out.below B3) hl).mono ?_
  rintro e w4 ⟨v4, rfl, hr4, hb4⟩
  have z4 := hb4.size
  have B4 := B3.trans (hb4.mono (by omega))
  have X4 := Lib.hid (X3.out.below hb4)
  have R4 := Lib.hid (R3.out.below hb4)
  have K4 := Lib.hid hr4.blk
  clear hb4 X3 R3
  go_wp2_with fail
  refine (hI.out v4 _ (RInts.of_row hr4)).mono ?_
  rintro e w5 ⟨x5, rfl, o5, hb5⟩
  have z5 := hb5.size
  have B5 := B4.trans (hb5.mono (by omega))
  have X5 := Lib.hid (X4.out.below hb5)
  have R5 := Lib.hid (R4.out.below hb5)
  have hr5 := hr4.below hb5
  obtain ⟨v5, u5, rfl, q5, r5, hne5⟩ := o5
  have K5 := Lib.hid q5.blk
  have L5 := Lib.hid r5.blk
  have P5 : Hid (LRow w5 w4.heap.size v5 u5 fs ds) := Lib.hid ⟨q5, r5, hne5⟩
  obtain ⟨A5, k5, rfl⟩ := q5.shape
  obtain ⟨A6, k6, rfl⟩ := r5.shape
  clear hr4 q5 r5 hne5 hb5 X4 R4
  obtain ⟨w6, hw6⟩ : ∃ W, W = w5.alloc (.cells #[.slice A5 fs.length k5, .slice A6 ds.length k6] 45) := ⟨_, rfl⟩
  have b6 : Below w5.heap.size w5 w6 := by rw [hw6]; exact (Below.refl _ _).alloc (Nat.le_refl _) _
  have z6 : w6.heap.size = w5.heap.size + 1 := by rw [hw6]; simp
  have B6 := B5.trans (b6.mono (by omega))
  have X6 := Lib.hid (X5.out.below b6)
  have R6 := Lib.hid (R5.out.below b6)
  have P6 := Lib.hid (P5.out.below b6)
  have Y6 : Hid (VBox w5.heap.size (.slice A5 fs.length k5) (.slice A6 ds.length k6) w6) := Lib.hid (by rw [hw6]; exact VBox.start _ _ _)
  have hr6 := hr5.below b6
  have HW6 := Lib.hid hw6
  have c0 := X5.out.c0
  have c1 := X5.out.c1
  have lt5 : w2.heap.size < w5.heap.size := by omega
  clear hw6 b6 X5 R5 P5 hr5
  go_wp2_with fail
  rw [← HW6.out]
  refine (eqLevels_same _ _ fs ds _ _ w6 P6.out.olev R6.out.olev h1 h2).mono ?_
  rintro e w7 ⟨rfl, hb7⟩
  have z7 := hb7.size
  have B7 := B6.trans (hb7.mono (by omega))
  have X7 := Lib.hid (X6.out.below hb7)
  have Y7 := Lib.hid (Y6.out.below hb7)
  have R7 := Lib.hid (R6.out.below hb7)
  have P7 := Lib.hid (P6.out.below hb7)
  have hr7 := hr6.below hb7
  clear hb7 X6 Y6 R6 P6 hr6 c0 c1
  go_wp2_with fail
  refine (toIntS_any _ zs _ (H.out.below B7) hl).mono ?_
  rintro e w8 ⟨v8, rfl, hr8, hb8⟩
  have z8 := hb8.size
  have B8 := B7.trans (hb8.mono (by omega))
  have X8 := Lib.hid (X7.out.below hb8)
  have Y8 := Lib.hid (Y7.out.below hb8)
  have R8 := Lib.hid (R7.out.below hb8)
  have P8 := Lib.hid (P7.out.below hb8)
  have hr48 := hr7.below hb8
  clear hb8 X7 Y7 R7 P7 hr7
  go_wp2_with fail
  refine (eqInts_same v4 v8 zs _ _ _ hr48 hr8 (by omega)).mono ?_
  rintro e w9 ⟨rfl, n9, rfl⟩
  have B9 := below_drewN B8 n9
  have X9 := Lib.hid (X8.out.drewN n9)
  have Y9 := Lib.hid (Y8.out.drewN n9)
  have R9 := Lib.hid (R8.out.drewN n9)
  have P9 := Lib.hid (P8.out.drewN n9)
  have hr9 := hr48.drewN n9
  have s9 : (w8.drewN n9).heap.size = w8.heap.size := rfl
  generalize w8.drewN n9 = w9 at *
  clear X8 Y8 R8 P8 hr48 hr8 B8
  go_wp2_with fail
  refine (markInts_any v4 zs _ 1 _ hr9 (by omega) (by omega)).mono ?_
  rintro e w10 ⟨rfl, hr10, hg10⟩
  have z10 := hg10.size
  have q1 : ¬ (1 + (zs.length : Int)) < 0 := by omega
  have B10 : Below w.heap.size w w10 := B9.grown hg10 (by omega) (fun q hq => by have := (K4.out q hq).1; omega)
  have X10 := Lib.hid (X9.out.grown hg10 (fun e => by have := (K4.out _ e.symm).1; omega))
  have Y10 := Lib.hid (Y9.out.grown hg10 (fun e => by have := (K4.out _ e.symm).2; omega))
  have R10 := Lib.hid (R9.out.kept hg10 (fun q hq e => by have := (K4.out q hq).1; have := (K2.out q e).2; omega) (fun q hq e => by have := (K4.out q hq).1; have := (L2.out q e).2; omega))
  have P10 := Lib.hid (P9.out.kept hg10 (fun q hq e => by have := (K4.out q hq).2; have := (K5.out q e).1; omega) (fun q hq e => by have := (K4.out q hq).2; have := (L5.out q e).1; omega))
  clear hg10 X9 Y9 R9 P9 hr9 hr10 B9
  have c0 := X10.out.c0
  have c1 := X10.out.c1
  have d0 := Y10.out.c0
  have d1 := Y10.out.c1
  go_wp2_with fail
  refine (eqLevels_same _ _ fs ds _ _ w10 P10.out.olev R10.out.olev h1 h2).mono ?_
  rintro e w11 ⟨rfl, hb11⟩
  have z11 := hb11.size
  have B11 := B10.trans (hb11.mono (by omega))
  have X11 := Lib.hid (X10.out.below hb11)
  have Y11 := Lib.hid (Y10.out.below hb11)
  have R11 := Lib.hid (R10.out.below hb11)
  have P11 := Lib.hid (P10.out.below hb11)
  clear hb11 X10 Y10 R10 P10 c0 c1 d0 d1
  have d0 := Y11.out.c0
  have d1 := Y11.out.c1
  go_wp2_with fail
  refine (markLevels_any _ _ fs ds _ 1 w11 P11.out.1 P11.out.2.1 P11.out.2.2 h1 h2 (by omega)).mono ?_
  rintro e w12 hm
  obtain rfl := hm.1
  have z12 := hm.size
  have e1 : ∀ q, (Value.slice A5 fs.length k5).ownBlock = some q → w4.heap.size ≤ q ∧ q < w5.heap.size := K5.out
  have e2 : ∀ q, (Value.slice A6 ds.length k6).ownBlock = some q → w4.heap.size ≤ q ∧ q < w5.heap.size := L5.out
  have X12 := Lib.hid (hm.box X11.out (fun s hs => by have := e1 s hs; omega) (fun s hs => by have := e2 s hs; omega))
  have Y12 := Lib.hid (hm.box Y11.out (fun s hs => by have := e1 s hs; omega) (fun s hs => by have := e2 s hs; omega))
  have R12 : Hid (LRow w12 w1.heap.size (.slice A2 fs.length k2) (.slice A3 ds.length k3) fs ds) := Lib.hid
    ⟨hm.row R11.out.1 (fun q hq e => by have := e1 q hq; have := (K2.out q e).2; omega) (fun q hq e => by have := e2 q hq; have := (K2.out q e).2; omega),
     hm.row R11.out.2.1 (fun q hq e => by have := e1 q hq; have := (L2.out q e).2; omega) (fun q hq e => by have := e2 q hq; have := (L2.out q e).2; omega), R11.out.2.2⟩
  have B12 := hm.low B11 (by omega) (fun q hq => by have := e1 q hq; omega) (fun q hq => by have := e2 q hq; omega)
  have M12 := Lib.hid (And.intro hm.2.1 hm.2.2.1)
  clear hm X11 Y11 R11 P11 d0 d1 e1 e2
  have d0 := Y12.out.c0
  have d1 := Y12.out.c1
  go_wp2_with fail
  refine (heldLevels_any _ _ fs.length ds.length _ 1 w12 M12.out.1 M12.out.2 h1 h2 (by omega)).mono ?_
  rintro e w13 ⟨rfl, hb13⟩
  have z13 := hb13.size
  have q2 : ¬ (1 : Int) + fs.length + ds.length < 0 := by omega
  have B13 := B12.trans (hb13.mono (by omega))
  have X13 := Lib.hid (X12.out.below hb13)
  have Y13 := Lib.hid (Y12.out.below hb13)
  have R13 := Lib.hid (R12.out.below hb13)
  have M13 := Lib.hid (And.intro (M12.out.1.below hb13) (M12.out.2.below hb13))
  clear hb13 X12 Y12 R12 M12 d0 d1
  go_wp2_with fail
  refine (toIntS_any _ zs _ (H.out.below B13) hl).mono ?_
  rintro e w14 ⟨v14, rfl, hr14, hb14⟩
  have z14 := hb14.size
  have B14 := B13.trans (hb14.mono (by omega))
  have X14 := Lib.hid (X13.out.below hb14)
  have Y14 := Lib.hid (Y13.out.below hb14)
  have R14 := Lib.hid (R13.out.below hb14)
  have M14 := Lib.hid (And.intro (M13.out.1.below hb14) (M13.out.2.below hb14))
  clear hb14 X13 Y13 R13 M13
  go_wp2_with fail
  refine (hI.out v14 _ (RInts.of_row hr14)).mono ?_
  rintro e w15 ⟨x15, rfl, o15, hb15⟩
  have z15 := hb15.size
  have B15 := B14.trans (hb15.mono (by omega))
  have X15 := Lib.hid (X14.out.below hb15)
  have Y15 := Lib.hid (Y14.out.below hb15)
  have R15 := Lib.hid (R14.out.below hb15)
  have M15 := Lib.hid (And.intro (M14.out.1.below hb15) (M14.out.2.below hb15))
  obtain ⟨v15, u15, rfl, q15, r15, hne15⟩ := o15
  have P15 : Hid (LRow w15 w14.heap.size v15 u15 fs ds) := Lib.hid ⟨q15, r15, hne15⟩
  obtain ⟨A15, k15, rfl⟩ := q15.shape
  obtain ⟨A16, k16, rfl⟩ := r15.shape
  clear hr14 q15 r15 hne15 hb15 X14 Y14 R14 M14
  obtain ⟨w16, hw16⟩ : ∃ W, W = w15.alloc (.cells #[.slice A15 fs.length k15, .slice A16 ds.length k16] 45) := ⟨_, rfl⟩
  have b16 : Below w15.heap.size w15 w16 := by rw [hw16]; exact (Below.refl _ _).alloc (Nat.le_refl _) _
  have z16 : w16.heap.size = w15.heap.size + 1 := by rw [hw16]; simp
  have B16 := B15.trans (b16.mono (by omega))
  have X16 := Lib.hid (X15.out.below b16)
  have Y16 := Lib.hid (Y15.out.below b16)
  have R16 := Lib.hid (R15.out.below b16)
  have P16 := Lib.hid (P15.out.below b16)
  have M16 := Lib.hid (And.intro (M15.out.1.below b16) (M15.out.2.below b16))
  have HW16 := Lib.hid hw16
  have c0 := X15.out.c0
  have c1 := X15.out.c1
  have lt15 : w2.heap.size < w15.heap.size := by omega
  clear hw16 b16 X15 Y15 R15 P15 M15
  go_wp2_with fail
  rw [← HW16.out]
  refine (eqLevels_same _ _ fs ds _ _ w16 P16.out.olev R16.out.olev h1 h2).mono ?_
  rintro e w17 ⟨rfl, hb17⟩
  have z17 := hb17.size
  have B17 := B16.trans (hb17.mono (by omega))
  have Y17 := Lib.hid (Y16.out.below hb17)
  have M17 := Lib.hid (And.intro (M16.out.1.below hb17) (M16.out.2.below hb17))
  clear hb17 X16 Y16 R16 P16 M16 c0 c1
  have d0 := Y17.out.c0
  have d1 := Y17.out.c1
  go_wp2_with fail
  refine (heldLevels_any _ _ fs.length ds.length _ 1 w17 M17.out.1 M17.out.2 h1 h2 (by omega)).mono ?_
  rintro e w18 ⟨rfl, hb18⟩
  have B18 := B17.trans (hb18.mono (by omega))
  go_wp2_with fail
  go_ret
  exact ⟨rfl, B18⟩
set_option maxHeartbeats 400000 in
theorem wFnExactLevelsOf_big (A : Option Addr) (len cap : Nat) (w : World) (h : 1048576 < len) :
    Calls Try.prog 14 #[.slice A len cap] w fun e w' => e = .returned (.bool true) ∧ Below w.heap.size w w' := by
  go_enter Try.func14, Try.ntmps14
  go_wp2
  go_ret
  exact ⟨rfl, Below.refl _ _⟩
end Go.Proofs.Ytnmmgpmhpjjehaa
