/- The walk of FnExactCountApart: it asks the model and the program about copies of two slices of cells, holds the answers against each other, marks them, asks again. -/
import Derived.Test.YtahnknbggacndaaToC2
namespace Go.Proofs.Ytahnknbggacndaa
open Go.RowKit
set_option linter.unusedVariables false
set_option maxRecDepth 100000 in
set_option maxHeartbeats 4000000 in
theorem wFnExactCountApart_core (v1 : Value) (n : Nat) (xs : List Int) (v2 : Value) (m : Nat) (ys : List Int) (ok : Bool) (k : Int)
    (hS : Hid (∀ u1 u2 w, RCels w u1 n xs → RCels w u2 m ys → Calls Try.prog 64 #[u1, u2] w (Ret w (.tuple #[.int .i64 k, .bool ok])))) (hI : Hid (∀ u1 u2 w, RCels w u1 n xs → RCels w u2 m ys → Calls Try.prog 65 #[u1, u2] w (Ret w (.tuple #[.int .i64 k, .bool ok])))) (left2 : Int) (hl2 : ¬ left2 < 0) (left : Int) (hl : ¬ left < 0) (w : World) (h1 : RCels w v1 n xs) (h2 : RCels w v2 m ys) (hn : n ≤ 1048576) (hm : m ≤ 1048576)
    (HZ1 : Hid (∀ w', Below w.heap.size w w' → Calls Try.prog 53 #[v1, .int .i64 1048576] w' fun e w'' => e = .returned (.int .i64 left) ∧ w' = w'')) (HZ2 : Hid (∀ w', Below w.heap.size w w' → Calls Try.prog 53 #[v2, .int .i64 left] w' fun e w'' => e = .returned (.int .i64 left2) ∧ w' = w'')) :
    Calls Try.prog 15 #[v1, v2] w fun e w' => e = .returned (.bool true) ∧ Below w.heap.size w w' := by
  have HT1 : Hid (∀ w', Below w.heap.size w w' → Calls Try.prog 55 #[v1] w' (CsNew w' n (ccp xs n))) := Lib.hid fun w' hb => toCellS_row v1 n xs w' (h1.below hb) hn
  have HT2 : Hid (∀ w', Below w.heap.size w w' → Calls Try.prog 55 #[v2] w' (CsNew w' m (ccp ys m))) := Lib.hid fun w' hb => toCellS_row v2 m ys w' (h2.below hb) hm
  obtain ⟨A1, p1, rfl⟩ := h1.shape
  obtain ⟨A2, p2, rfl⟩ := h2.shape
  clear h1 h2
  go_enter Try.func15, Try.ntmps15
  go_wp2_with fail
  refine (HZ1.out _ (Below.refl _ _)).mono ?_
  rintro e w0 ⟨rfl, rfl⟩
  go_wp2_with fail
  refine (HZ2.out _ (Below.refl _ _)).mono ?_
  rintro e w0 ⟨rfl, rfl⟩
  clear HZ1 HZ2
  go_wp2_with fail
  refine (HT1.out _ (Below.refl _ _)).mono ?_
  rintro e w1 ⟨ua, rfl, hr, hb⟩
  have BB0 := Lib.hid hb
  have z0 := hb.size
  have Ka := Lib.hid hr.blk
  obtain ⟨Aa, ca, rfl⟩ := hr.shape
  have Ra := Lib.hid hr
  clear hr hb
  go_wp2_with fail
  refine (HT2.out _ BB0.out).mono ?_
  rintro e w2 ⟨ub, rfl, hr, hb⟩
  have BB1 := Lib.hid (BB0.out.trans (hb.mono BB0.out.size))
  have z1 := hb.size
  have Ra' := Lib.hid (Ra.out.below hb)
  clear Ra
  have Ra := Ra'
  clear Ra'
  clear BB0
  have Kb := Lib.hid hr.blk
  obtain ⟨Ab, cb, rfl⟩ := hr.shape
  have Rb := Lib.hid hr
  clear hr hb
  go_wp2_with fail
  refine (hS.out _ _ _ (crow_rcels Ra.out) (crow_rcels Rb.out)).mono ?_
  rintro e w3 ⟨rfl, hb⟩
  have BB2 := Lib.hid (BB1.out.trans (hb.mono BB1.out.size))
  have z2 := hb.size
  have Ra' := Lib.hid (Ra.out.below hb)
  have Rb' := Lib.hid (Rb.out.below hb)
  clear Ra Rb
  have Ra := Ra'
  clear Ra'
  have Rb := Rb'
  clear Rb'
  clear BB1
  clear hb
  clear Ra Rb
  go_wp2_with fail
  refine (HT1.out _ BB2.out).mono ?_
  rintro e w4 ⟨ux, rfl, hr, hb⟩
  have BB3 := Lib.hid (BB2.out.trans (hb.mono BB2.out.size))
  have z3 := hb.size
  clear BB2
  have Kx := Lib.hid hr.blk
  obtain ⟨Ax, cx, rfl⟩ := hr.shape
  have Rx := Lib.hid hr
  clear hr hb
  go_wp2_with fail
  refine (HT2.out _ BB3.out).mono ?_
  rintro e w5 ⟨uy, rfl, hr, hb⟩
  have BB4 := Lib.hid (BB3.out.trans (hb.mono BB3.out.size))
  have z4 := hb.size
  have Rx' := Lib.hid (Rx.out.below hb)
  clear Rx
  have Rx := Rx'
  clear Rx'
  clear BB3
  have Ky := Lib.hid hr.blk
  obtain ⟨Ay, cy, rfl⟩ := hr.shape
  have Ry := Lib.hid hr
  clear hr hb
  go_wp2_with fail
  refine (hI.out _ _ _ (crow_rcels Rx.out) (crow_rcels Ry.out)).mono ?_
  rintro e w6 ⟨rfl, hb⟩
  have BB5 := Lib.hid (BB4.out.trans (hb.mono BB4.out.size))
  have z5 := hb.size
  have Rx' := Lib.hid (Rx.out.below hb)
  have Ry' := Lib.hid (Ry.out.below hb)
  clear Rx Ry
  have Rx := Rx'
  clear Rx'
  have Ry := Ry'
  clear Ry'
  clear BB4
  clear hb
  go_wp2_with fail
  refine (HT1.out _ BB5.out).mono ?_
  rintro e w7 ⟨up, rfl, hr, hb⟩
  have BB6 := Lib.hid (BB5.out.trans (hb.mono BB5.out.size))
  have z6 := hb.size
  have Rx' := Lib.hid (Rx.out.below hb)
  have Ry' := Lib.hid (Ry.out.below hb)
  clear Rx Ry
  have Rx := Rx'
  clear Rx'
  have Ry := Ry'
  clear Ry'
  clear BB5
  have Kp := Lib.hid hr.blk
  obtain ⟨Ap, cp, rfl⟩ := hr.shape
  have Rp := Lib.hid hr
  clear hr hb
  go_wp2_with fail
  refine (eqCels_same _ _ n _ _ _ _ Rx.out Rp.out hn).mono ?_
  rintro e w8 ⟨rfl, hb⟩
  have BB7 := Lib.hid (BB6.out.trans (hb.mono BB6.out.size))
  have z7 := hb.size
  have Rx' := Lib.hid (Rx.out.below hb)
  have Ry' := Lib.hid (Ry.out.below hb)
  have Rp' := Lib.hid (Rp.out.below hb)
  clear Rx Ry Rp
  have Rx := Rx'
  clear Rx'
  have Ry := Ry'
  clear Ry'
  have Rp := Rp'
  clear Rp'
  clear BB6
  clear hb
  clear Rp
  go_wp2_with fail
  refine (HT2.out _ BB7.out).mono ?_
  rintro e w9 ⟨uq, rfl, hr, hb⟩
  have BB8 := Lib.hid (BB7.out.trans (hb.mono BB7.out.size))
  have z8 := hb.size
  have Rx' := Lib.hid (Rx.out.below hb)
  have Ry' := Lib.hid (Ry.out.below hb)
  clear Rx Ry
  have Rx := Rx'
  clear Rx'
  have Ry := Ry'
  clear Ry'
  clear BB7
  have Kq := Lib.hid hr.blk
  obtain ⟨Aq, cq, rfl⟩ := hr.shape
  have Rq := Lib.hid hr
  clear hr hb
  go_wp2_with fail
  refine (eqCels_same _ _ m _ _ _ _ Ry.out Rq.out hm).mono ?_
  rintro e w10 ⟨rfl, hb⟩
  have BB9 := Lib.hid (BB8.out.trans (hb.mono BB8.out.size))
  have z9 := hb.size
  have Rx' := Lib.hid (Rx.out.below hb)
  have Ry' := Lib.hid (Ry.out.below hb)
  have Rq' := Lib.hid (Rq.out.below hb)
  clear Rx Ry Rq
  have Rx := Rx'
  clear Rx'
  have Ry := Ry'
  clear Ry'
  have Rq := Rq'
  clear Rq'
  clear BB8
  clear hb
  clear Rq
  go_wp2_with fail
  go_ret
  exact ⟨rfl, BB9.out⟩
set_option maxRecDepth 100000 in
set_option maxHeartbeats 1000000 in
theorem wFnExactCountApart_main (v1 : Value) (n : Nat) (xs : List Int) (v2 : Value) (m : Nat) (ys : List Int) (w : World) (h1 : RCels w v1 n xs) (h2 : RCels w v2 m ys)
    (hW : n ≤ 1048576 → m ≤ 1048576 → ∀ (left2 : Int), ¬ left2 < 0 → ∀ (left : Int), ¬ left < 0 → (HZ1 : Hid (∀ w', Below w.heap.size w w' → Calls Try.prog 53 #[v1, .int .i64 1048576] w' fun e w'' => e = .returned (.int .i64 left) ∧ w' = w'')) → (HZ2 : Hid (∀ w', Below w.heap.size w w' → Calls Try.prog 53 #[v2, .int .i64 left] w' fun e w'' => e = .returned (.int .i64 left2) ∧ w' = w'')) → Calls Try.prog 15 #[v1, v2] w fun e w' => e = .returned (.bool true) ∧ Below w.heap.size w w') :
    Calls Try.prog 15 #[v1, v2] w fun e w' => e = .returned (.bool true) ∧ Below w.heap.size w w' := by
  have HZ1 : Hid (∀ w', Below w.heap.size w w' → Calls Try.prog 53 #[v1, .int .i64 1048576] w' fun e w'' => e = .returned (.int .i64 (szC n 1048576)) ∧ w' = w'') := Lib.hid fun w' hb => szCellS_any v1 n xs 1048576 w' (h1.below hb) ⟨by omega, by omega⟩
  have hs1 : ¬ szC n 1048576 < 0 → n ≤ 1048576 ∧ 0 ≤ szC n 1048576 ∧ szC n 1048576 ≤ 1048576 := by
    unfold szC
    split <;> omega
  by_cases hb1 : szC n 1048576 < 0
  · generalize szC n 1048576 = left at *
    clear hW hs1
    obtain ⟨A1, p1, rfl⟩ := h1.shape
    obtain ⟨A2, p2, rfl⟩ := h2.shape
    clear h1 h2
    go_enter Try.func15, Try.ntmps15
    go_wp2_with fail
    refine (HZ1.out _ (Below.refl _ _)).mono ?_
    rintro e w0 ⟨rfl, rfl⟩
    go_wp2_with fail
    go_ret
    exact ⟨rfl, Below.refl _ _⟩
  obtain ⟨hn, hl0, hl1⟩ := hs1 hb1
  generalize szC n 1048576 = left at *
  have HZ2 : Hid (∀ w', Below w.heap.size w w' → Calls Try.prog 53 #[v2, .int .i64 left] w' fun e w'' => e = .returned (.int .i64 (szC m left)) ∧ w' = w'') := Lib.hid fun w' hb => szCellS_any v2 m ys left w' (h2.below hb) ⟨hl0, hl1⟩
  have hs2 : ¬ szC m left < 0 → m ≤ 1048576 := by
    unfold szC
    split <;> omega
  by_cases hb2 : szC m left < 0
  · generalize szC m left = left2 at *
    clear hW hs2
    obtain ⟨A1, p1, rfl⟩ := h1.shape
    obtain ⟨A2, p2, rfl⟩ := h2.shape
    clear h1 h2
    go_enter Try.func15, Try.ntmps15
    go_wp2_with fail
    refine (HZ1.out _ (Below.refl _ _)).mono ?_
    rintro e w0 ⟨rfl, rfl⟩
    go_wp2_with fail
    refine (HZ2.out _ (Below.refl _ _)).mono ?_
    rintro e w0 ⟨rfl, rfl⟩
    go_wp2_with fail
    go_ret
    exact ⟨rfl, Below.refl _ _⟩
  exact hW hn (hs2 hb2) _ hb2 _ hb1 HZ1 HZ2
end Go.Proofs.Ytahnknbggacndaa
