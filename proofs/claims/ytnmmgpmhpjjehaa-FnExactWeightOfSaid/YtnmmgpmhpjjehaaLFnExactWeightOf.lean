/- The walk of FnExactWeightOf: it asks the model and the program about copies of levels and holds the answers against each other. -/
import Derived.Test.YtnmmgpmhpjjehaaLvLaw
import Derived.Deep.RegionLaw
namespace Go.Proofs.Ytnmmgpmhpjjehaa
open Go.RowKit
set_option linter.unusedVariables false
set_option maxRecDepth 100000 in
set_option maxHeartbeats 2000000 in
theorem wFnExactWeightOf_main (x : Value) (fs ds : List Int) (a1 : ByteArray) (ok : Bool) (x0 : Int)
    (hS : Hid (∀ x w, RLev w x fs ds → Calls Try.prog 45 #[x, .string a1] w (Ret w (.tuple #[.int .i64 x0, .bool ok])))) (hI : Hid (∀ x w, RLev w x fs ds → Calls Try.prog 46 #[x, .string a1] w (Ret w (.tuple #[.int .i64 x0, .bool ok])))) (w : World) (h : RLev w x fs ds) (hl : fs.length + ds.length ≤ 1048576) (hs1 : ¬ 1048576 < a1.size) :
    Calls Try.prog 10 #[x, .string a1] w fun e w' => e = .returned (.bool true) ∧ Below w.heap.size w w' := by
  have H := Lib.hid h
  obtain ⟨v, u, rfl, hF, hD⟩ := h
  clear hF hD
  have h1 : fs.length ≤ 1048576 := by omega
  have h2 : ds.length ≤ 1048576 := by omega
  have hsi1 : ¬ (1048576 : Int) < (a1.size : Int) := by omega
  obtain ⟨w0, hw0⟩ : ∃ W, W = w.alloc (.cells #[v, u] 42) := ⟨_, rfl⟩
  have B0 : Below w.heap.size w w0 := by rw [hw0]; exact (Below.refl _ _).alloc (Nat.le_refl _) _
  have z0 : w0.heap.size = w.heap.size + 1 := by rw [hw0]; simp
  have c0 : w0.cell? ⟨w.heap.size, 0, none⟩ = some v := by rw [hw0]; simp [go_sem]
  have c1 : w0.cell? ⟨w.heap.size, 1, none⟩ = some u := by rw [hw0]; simp [go_sem]
  have HSZ := Lib.hid (szLevels_ret _ fs ds 1048576 w0 (H.out.below B0) (by omega))
  rw [szLv_yes hl] at HSZ
  have hnn : ¬ (1048576 : Int) - fs.length - ds.length < 0 := by omega
  have HW0 := Lib.hid hw0
  clear hw0
  go_enter Try.func10, Try.ntmps10
  go_wp2_with fail
  rw [← HW0.out]
  refine HSZ.out.mono ?_
  rintro e w1 ⟨rfl, hb1⟩
  have z1 := hb1.size
  have B1 := B0.trans (hb1.mono (by omega))
  have d0 := (hb1.cell (p := ⟨w.heap.size, 0, none⟩) (show w.heap.size < w0.heap.size by omega)).trans c0
  have d1 := (hb1.cell (p := ⟨w.heap.size, 1, none⟩) (show w.heap.size < w0.heap.size by omega)).trans c1
  clear hb1 c0 c1
  go_wp2_with fail
  refine (toLevels_ret _ fs ds _ (H.out.below B1) h1 h2).mono ?_
  rintro e w2 ⟨x2, rfl, o2, hb2⟩
  have z2 := hb2.size
  have B2 := B1.trans (hb2.mono (by omega))
  have c0 := (hb2.cell (p := ⟨w.heap.size, 0, none⟩) (show w.heap.size < w1.heap.size by omega)).trans d0
  have c1 := (hb2.cell (p := ⟨w.heap.size, 1, none⟩) (show w.heap.size < w1.heap.size by omega)).trans d1
  clear hb2 d0 d1
  go_wp2_with fail
  refine (hS.out _ _ o2.read).mono ?_
  rintro e w3 ⟨rfl, hb3⟩
  have z3 := hb3.size
  have B3 := B2.trans (hb3.mono (by omega))
  have d0 := (hb3.cell (p := ⟨w.heap.size, 0, none⟩) (show w.heap.size < w2.heap.size by omega)).trans c0
  have d1 := (hb3.cell (p := ⟨w.heap.size, 1, none⟩) (show w.heap.size < w2.heap.size by omega)).trans c1
  clear hb3 c0 c1 o2
  go_wp2_with fail
  refine (toLevels_ret _ fs ds _ (H.out.below B3) h1 h2).mono ?_
  rintro e w4 ⟨x4, rfl, o4, hb4⟩
  have z4 := hb4.size
  have B4 := B3.trans (hb4.mono (by omega))
  have c0 := (hb4.cell (p := ⟨w.heap.size, 0, none⟩) (show w.heap.size < w3.heap.size by omega)).trans d0
  have c1 := (hb4.cell (p := ⟨w.heap.size, 1, none⟩) (show w.heap.size < w3.heap.size by omega)).trans d1
  clear hb4 d0 d1
  have O4 := Lib.hid o4
  obtain ⟨v4, u4, rfl, q4, r4, _⟩ := o4
  obtain ⟨A4, k4, rfl⟩ := q4.shape
  obtain ⟨A5, k5, rfl⟩ := r4.shape
  clear q4 r4
  obtain ⟨w5, hw5⟩ : ∃ W, W = w4.alloc (.cells #[.slice A4 fs.length k4, .slice A5 ds.length k5] 45) := ⟨_, rfl⟩
  have b5 : Below w4.heap.size w4 w5 := by rw [hw5]; exact (Below.refl _ _).alloc (Nat.le_refl _) _
  have z5 : w5.heap.size = w4.heap.size + 1 := by rw [hw5]; simp
  have B5 := B4.trans (b5.mono (by omega))
  have O5 := Lib.hid (O4.out.below b5)
  have d0 := (b5.cell (p := ⟨w.heap.size, 0, none⟩) (show w.heap.size < w4.heap.size by omega)).trans c0
  have d1 := (b5.cell (p := ⟨w.heap.size, 1, none⟩) (show w.heap.size < w4.heap.size by omega)).trans c1
  have e0 : w5.cell? ⟨w4.heap.size, 0, none⟩ = some (.slice A4 fs.length k4) := by rw [hw5]; simp [go_sem]
  have e1 : w5.cell? ⟨w4.heap.size, 1, none⟩ = some (.slice A5 ds.length k5) := by rw [hw5]; simp [go_sem]
  have HW5 := Lib.hid hw5
  clear hw5 c0 c1 b5
  go_wp2_with fail
  rw [← HW5.out]
  refine (hI.out _ _ O5.out.read).mono ?_
  rintro e w6 ⟨rfl, hb6⟩
  have z6 := hb6.size
  have B6 := B5.trans (hb6.mono (by omega))
  have c0 := (hb6.cell (p := ⟨w.heap.size, 0, none⟩) (show w.heap.size < w5.heap.size by omega)).trans d0
  have c1 := (hb6.cell (p := ⟨w.heap.size, 1, none⟩) (show w.heap.size < w5.heap.size by omega)).trans d1
  have g0 := (hb6.cell (p := ⟨w4.heap.size, 0, none⟩) (show w4.heap.size < w5.heap.size by omega)).trans e0
  have g1 := (hb6.cell (p := ⟨w4.heap.size, 1, none⟩) (show w4.heap.size < w5.heap.size by omega)).trans e1
  have O6 := Lib.hid (O5.out.below hb6)
  have B7 := B6.drew
  have HTL := Lib.hid (toLevels_ret (.agg #[v, u]) fs ds w6.drew (H.out.below B7) h1 h2)
  have HEQ : Hid (∀ x' w7, OLev w7 w6.drew.heap.size x' fs ds → Below w6.drew.heap.size w6.drew w7 → Calls Try.prog 44 #[.agg #[.slice A4 fs.length k4, .slice A5 ds.length k5], x'] w7 (Ret w7 (.bool true))) := Lib.hid fun x' w7 ho hb => eqLevels_same _ _ fs ds _ _ w7 ((show OLev w6.drew w3.heap.size _ fs ds from O6.out).below hb) ho h1 h2
  clear hb6 d0 d1 e0 e1 HSZ
  go_wp2_with fail
  go_region_law (first
    | (go_simp; go_at_call 42; refine HTL.out.mono ?_; rintro e w8 ⟨x8, rfl, o8, hb8⟩; have j0 := (hb8.cell (p := ⟨w.heap.size, 0, none⟩) (show w.heap.size < w6.drew.heap.size from (show w.heap.size < w6.heap.size by omega))).trans c0; have j1 := (hb8.cell (p := ⟨w.heap.size, 1, none⟩) (show w.heap.size < w6.drew.heap.size from (show w.heap.size < w6.heap.size by omega))).trans c1; have j2 := (hb8.cell (p := ⟨w4.heap.size, 0, none⟩) (show w4.heap.size < w6.drew.heap.size from (show w4.heap.size < w6.heap.size by omega))).trans g0; have j3 := (hb8.cell (p := ⟨w4.heap.size, 1, none⟩) (show w4.heap.size < w6.drew.heap.size from (show w4.heap.size < w6.heap.size by omega))).trans g1)
    | (go_simp; go_at_call 44; refine (HEQ.out _ _ o8 hb8).mono ?_; rintro e w9 ⟨rfl, hb9⟩))
  all_goals (try go_wp2_with fail)
  all_goals go_ret
  all_goals exact ⟨rfl, (B7.trans (hb8.mono (show w.heap.size ≤ w6.heap.size by omega))).trans (hb9.mono (Nat.le_trans (show w.heap.size ≤ w6.heap.size by omega) hb8.size))⟩
set_option maxHeartbeats 400000 in
theorem wFnExactWeightOf_big (x : Value) (fs ds : List Int) (a1 : ByteArray) (w : World) (h : RLev w x fs ds) (hl : ¬ fs.length + ds.length ≤ 1048576) (hs1 : ¬ 1048576 < a1.size) :
    Calls Try.prog 10 #[x, .string a1] w fun e w' => e = .returned (.bool true) ∧ Below w.heap.size w w' := by
  have H := Lib.hid h
  obtain ⟨v, u, rfl, hF, hD⟩ := h
  clear hF hD
  have hsi1 : ¬ (1048576 : Int) < (a1.size : Int) := by omega
  have B0 : Below w.heap.size w (w.alloc (.cells #[v, u] 42)) := (Below.refl _ _).alloc (Nat.le_refl _) _
  have HSZ := Lib.hid (szLevels_ret _ fs ds 1048576 _ (H.out.below B0) (by omega))
  have hneg := szLv_no hl
  generalize szLv 1048576 fs.length ds.length = z at *
  go_enter Try.func10, Try.ntmps10
  go_wp2_with fail
  refine HSZ.out.mono ?_
  rintro e w1 ⟨rfl, hb1⟩
  go_wp2_with fail
  go_ret
  exact ⟨rfl, B0.trans (hb1.mono (by simp))⟩
set_option maxHeartbeats 400000 in
theorem wFnExactWeightOf_long (v u : Value) (a1 : ByteArray) (w : World) (hs : 1048576 < a1.size) (hm : a1.size ≤ maxLen) :
    Calls Try.prog 10 #[.agg #[v, u], .string a1] w fun e w' => e = .returned (.bool true) ∧ Below w.heap.size w w' := by
  unfold maxLen at hm
  go_enter Try.func10, Try.ntmps10
  go_wp2
  go_ret
  exact ⟨rfl, (Below.refl _ _).alloc (Nat.le_refl _) _⟩
end Go.Proofs.Ytnmmgpmhpjjehaa
