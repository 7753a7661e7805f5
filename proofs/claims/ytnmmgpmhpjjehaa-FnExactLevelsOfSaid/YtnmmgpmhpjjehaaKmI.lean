/- CountNoFloor, CountColors, CountMixed of the program. -/
import Derived.Test.YtnmmgpmhpjjehaaGmIN
import Derived.Test.YtnmmgpmhpjjehaaGmIC
import Derived.Test.YtnmmgpmhpjjehaaKmS
import Derived.Test.YtnmmgpmhpjjehaaLvI
namespace Go.Proofs.Ytnmmgpmhpjjehaa
open Go.RowKit Go.Maps
set_option linter.unusedVariables false
abbrev kU (u : Nat) : Nat → Int := fun _ => (u : Int)
abbrev kF (f : Nat) (fl : Bool) : Nat → Int := fun h => if h = 0 ∧ fl = false then 0 else (f : Int)
theorem three_cases {j : Nat} (h : j < 3) : j = 0 ∨ j = 1 ∨ j = 2 := by omega
set_option maxRecDepth 100000 in
theorem noFloor_clo (j h : Nat) (w : World) (hj : j < 3) (hh : h ≤ 11) :
    Calls Try.prog 83 #[.int .u8 ((akC j).toNat : Int), .int .i64 (h : Int)] w (AnsN (kU 1) (kF 1 false) (kU 1) j h w) := by
  rcases three_cases hj with rfl | rfl | rfl
  · show Calls Try.prog 83 #[.int .u8 68, .int .i64 (h : Int)] w _
    go_enter Try.func83, Try.ntmps83
    go_wp2
    go_ret2
    exact ⟨1, true, rfl, fun _ => rfl, (by simp), Below.refl _ _⟩
  · show Calls Try.prog 83 #[.int .u8 70, .int .i64 (h : Int)] w _
    by_cases h0 : 0 < h
    · have HZ := Lib.hid h0
      go_enter Try.func83, Try.ntmps83
      go_wp2
      go_ret2
      exact ⟨1, true, rfl, fun _ => by unfold wtJ kF; simp; omega, (by simp), Below.refl _ _⟩
    · have HZ := Lib.hid h0
      go_enter Try.func83, Try.ntmps83
      go_wp2
      go_ret2
      exact ⟨1, false, rfl, (by simp), fun _ => by unfold wtJ kF; simp; omega, Below.refl _ _⟩
  · show Calls Try.prog 83 #[.int .u8 85, .int .i64 (h : Int)] w _
    go_enter Try.func83, Try.ntmps83
    go_wp2
    go_ret2
    exact ⟨1, true, rfl, fun _ => rfl, (by simp), Below.refl _ _⟩
theorem lit_within (n lo hi : Int) (w : World) : Calls Try.prog 68 #[.int .i64 lo, .int .i64 hi, .slice (some ⟨w.heap.size, 0, none⟩) 1 1] (w.alloc (.cells #[.int .i64 n] 3)) fun e w' => e = .returned (.bool (inB n lo hi)) ∧ (w.alloc (.cells #[.int .i64 n] 3)) = w' := by
  have := within_any _ [n] lo hi _ (lit1 w n) (by simp)
  rwa [allB_one] at this
theorem cfOk_in (n : Int) : cfOk n = inB n 0 12 := by
  unfold cfOk ksB allB
  simp
set_option maxRecDepth 100000 in
set_option maxHeartbeats 1600000 in
theorem countNoFloor_ret (n : Int) (w : World) : Calls Try.prog 37 #[.int .i64 n] w (Ret w (.tuple #[.int .i64 (cfV n), .bool (cfOk n)])) := by
  have HI := Lib.hid (lit_within n 0 12)
  have hb1 : Below w.heap.size w (w.alloc (.cells #[.int .i64 n] 3)) := (Below.refl _ _).alloc (Nat.le_refl _) _
  rcases Bool.eq_false_or_eq_true (inB n 0 12) with hi | hi
  · have e1 : cfOk n = true := by rw [cfOk_in, hi]
    have e2 : cfV n = kcN n.toNat 1 1 1 false := by rw [cfV, if_pos e1]
    have hn := inB_iff hi
    obtain ⟨N, rfl⟩ := Int.eq_ofNat_of_zero_le hn.1
    have hN : N ≤ 12 := by omega
    rw [show ((N : Int).toNat) = N by omega] at e2
    have HM := Lib.hid fun w => momentsByN (kU 1) (kF 1 false) (kU 1) (W9.kc (by omega) (by omega) (by omega)) N hN w (Lib.hid fun j h wq h1 h2 _ _ => noFloor_clo j h wq h1 h2)
    have HV : Hid (gm (kU 1) (kF 1 false) (kU 1) N 0 = cfV N) := Lib.hid (by rw [e2]; exact gm_kc 1 1 1 false N 0)
    have HL : Hid ((fr (fun k => gm (kU 1) (kF 1 false) (kU 1) k 0) (N + 1)).length = N + 1) := Lib.hid (fr_length _ _)
    have HC : Hid ((fr (fun k => gm (kU 1) (kF 1 false) (kU 1) k 0) (N + 1)).getD N 0 = cfV N) := Lib.hid (by rw [fr_get _ _ _ (by omega)]; exact HV.out)
    rw [e1]
    rw [hi] at HI
    clear e1 e2 hi HV
    generalize fr (fun k => gm (kU 1) (kF 1 false) (kU 1) k 0) (N + 1) = L at *
    generalize cfV N = z at *
    go_enter Try.func37, Try.ntmps37
    go_wp2_with (first | (go_at_call 68; refine (HI.out _).mono ?_; rintro e w' ⟨rfl, rfl⟩) | (go_at_call 82; refine (HM.out _).mono ?_; rintro e w2 ⟨v, rfl, hr, hb⟩; obtain ⟨g, c, rfl, hg1, hg2⟩ := hr.form' HL.out (by omega); have k0 := hr.cell (j := N) (by rw [HL.out]; omega); rw [HC.out] at k0; have HB := Lib.hid hb; clear hr hb hg1 hg2))
    go_ret2
    exact ⟨rfl, hb1.trans (HB.out.mono (by simp))⟩
  · have e1 : cfOk n = false := by rw [cfOk_in, hi]
    have e2 : cfV n = 0 := by rw [cfV, e1]; rfl
    rw [e1, e2]
    rw [hi] at HI
    clear e1 e2 hi
    go_enter Try.func37, Try.ntmps37
    go_wp2_with (go_at_call 68; refine (HI.out _).mono ?_; rintro e w' ⟨rfl, rfl⟩)
    go_ret2
    exact ⟨rfl, hb1⟩
set_option maxRecDepth 100000 in
theorem colors_clo (u f d : Nat) (p5 p6 p7 j h : Nat) (w : World) (hj : j < 3)
    (c5 : w.cell? ⟨p5, 0, none⟩ = some (.int .i64 (u : Int))) (c6 : w.cell? ⟨p6, 0, none⟩ = some (.int .i64 (f : Int))) (c7 : w.cell? ⟨p7, 0, none⟩ = some (.int .i64 (d : Int))) :
    Calls Try.prog 84 #[.int .u8 ((akC j).toNat : Int), .int .i64 (h : Int), .pointer (some ⟨p5, 0, none⟩), .pointer (some ⟨p6, 0, none⟩), .pointer (some ⟨p7, 0, none⟩)] w (AnsC (kU u) (kF f true) (kU d) j h w) := by
  rcases three_cases hj with rfl | rfl | rfl
  · show Calls Try.prog 84 #[.int .u8 68, _, _, _, _] w _
    go_enter Try.func84, Try.ntmps84
    go_wp2
    go_ret2
    exact ⟨d, true, rfl, fun _ => rfl, (by simp), Below.refl _ _⟩
  · show Calls Try.prog 84 #[.int .u8 70, _, _, _, _] w _
    go_enter Try.func84, Try.ntmps84
    go_wp2
    go_ret2
    exact ⟨f, true, rfl, fun _ => by unfold wtJ; simp, (by simp), Below.refl _ _⟩
  · show Calls Try.prog 84 #[.int .u8 85, _, _, _, _] w _
    go_enter Try.func84, Try.ntmps84
    go_wp2
    go_ret2
    exact ⟨u, true, rfl, fun _ => rfl, (by simp), Below.refl _ _⟩
theorem ccOk_in (n u f d : Int) : ccOk n u f d = (inB n 0 12 && allB [u, f, d] 0 9) := rfl
set_option maxRecDepth 100000 in
set_option maxHeartbeats 3200000 in
theorem countColors_ret (n u f d : Int) (w : World) : Calls Try.prog 39 #[.int .i64 n, .int .i64 u, .int .i64 f, .int .i64 d] w (Ret w (.tuple #[.int .i64 (ccV n u f d), .bool (ccOk n u f d)])) := by
  obtain ⟨w3, hw3⟩ : ∃ w3, w3 = ((w.alloc (.cells #[.int .i64 u] 3)).alloc (.cells #[.int .i64 f] 3)).alloc (.cells #[.int .i64 d] 3) := ⟨_, rfl⟩
  have hz3 : w3.heap.size = w.heap.size + 3 := by rw [hw3]; simp
  have hb3 : Below w.heap.size w w3 := by
    rw [hw3]
    exact (((Below.refl _ _).alloc (Nat.le_refl _) _).alloc (by simp) _).alloc (by simp; omega) _
  have c5 : w3.cell? ⟨w.heap.size, 0, none⟩ = some (.int .i64 u) := by rw [hw3]; simp [go_sem]
  have c6 : w3.cell? ⟨w.heap.size + 1, 0, none⟩ = some (.int .i64 f) := by rw [hw3]; simp [go_sem]
  have c7 : w3.cell? ⟨w.heap.size + 2, 0, none⟩ = some (.int .i64 d) := by rw [hw3]; simp [go_sem]
  have HI : Hid (Calls Try.prog 68 #[.int .i64 0, .int .i64 12, .slice (some ⟨w.heap.size + 3, 0, none⟩) 1 1] (w3.alloc (.cells #[.int .i64 n] 3)) fun e w' => e = .returned (.bool (inB n 0 12)) ∧ (w3.alloc (.cells #[.int .i64 n] 3)) = w') := Lib.hid (by
    have := lit_within n 0 12 w3
    rwa [hz3] at this)
  obtain ⟨w4, hw4⟩ : ∃ w4, w4 = w3.alloc (.cells #[.int .i64 n] 3) := ⟨_, rfl⟩
  have hz4 : w4.heap.size = w.heap.size + 4 := by rw [hw4]; simp [hz3]
  have hb34 : Below w3.heap.size w3 w4 := by rw [hw4]; exact (Below.refl _ _).alloc (Nat.le_refl _) _
  have hb4 : Below w.heap.size w w4 := hb3.trans (hb34.mono (by omega))
  have k5 := (hb34.cell (p := ⟨w.heap.size, 0, none⟩) (by show w.heap.size < _; omega)).trans c5
  have k6 := (hb34.cell (p := ⟨w.heap.size + 1, 0, none⟩) (by show w.heap.size + 1 < _; omega)).trans c6
  have k7 := (hb34.cell (p := ⟨w.heap.size + 2, 0, none⟩) (by show w.heap.size + 2 < _; omega)).trans c7
  have HJ : Hid (Calls Try.prog 68 #[.int .i64 0, .int .i64 9, .slice (some ⟨w4.heap.size, 0, none⟩) 3 3] (w4.alloc (.cells #[.int .i64 u, .int .i64 f, .int .i64 d] 3)) fun e w' => e = .returned (.bool (allB [u, f, d] 0 9)) ∧ (w4.alloc (.cells #[.int .i64 u, .int .i64 f, .int .i64 d] 3)) = w') := Lib.hid (by
    exact within_any _ [u, f, d] 0 9 _ (lit3 w4 u f d) (by simp))
  obtain ⟨w5, hw5⟩ : ∃ w5, w5 = w4.alloc (.cells #[.int .i64 u, .int .i64 f, .int .i64 d] 3) := ⟨_, rfl⟩
  have hz5 : w5.heap.size = w.heap.size + 5 := by rw [hw5]; simp [hz4]
  have hb45 : Below w4.heap.size w4 w5 := by rw [hw5]; exact (Below.refl _ _).alloc (Nat.le_refl _) _
  have hb5 : Below w.heap.size w w5 := hb4.trans (hb45.mono (by omega))
  have m5 := (hb45.cell (p := ⟨w.heap.size, 0, none⟩) (by show w.heap.size < _; omega)).trans k5
  have m6 := (hb45.cell (p := ⟨w.heap.size + 1, 0, none⟩) (by show w.heap.size + 1 < _; omega)).trans k6
  have m7 := (hb45.cell (p := ⟨w.heap.size + 2, 0, none⟩) (by show w.heap.size + 2 < _; omega)).trans k7
  have H3 := Lib.hid hw3
  have H4 := Lib.hid hw4
  have H5 := Lib.hid hw5
  have HB4 := Lib.hid hb4
  have HB5 := Lib.hid hb5
  have HM5 : Hid (w5.cell? ⟨w.heap.size, 0, none⟩ = some (.int .i64 u) ∧ w5.cell? ⟨w.heap.size + 1, 0, none⟩ = some (.int .i64 f) ∧ w5.cell? ⟨w.heap.size + 2, 0, none⟩ = some (.int .i64 d) ∧ w5.heap.size = w.heap.size + 5) := Lib.hid ⟨m5, m6, m7, hz5⟩
  clear hw3 hw4 hw5 hb3 hb34 hb4 hb45 hb5 c5 c6 c7 m5 m6 m7 hz3 hz4 hz5
  rcases Bool.eq_false_or_eq_true (inB n 0 12) with hi | hi
  · rcases Bool.eq_false_or_eq_true (allB [u, f, d] 0 9) with ha | ha
    · have e1 : ccOk n u f d = true := by rw [ccOk_in, hi, ha]; rfl
      have e2 : ccV n u f d = kcN n.toNat u.toNat f.toNat d.toNat true := by rw [ccV, if_pos e1]
      have hn := inB_iff hi
      have h9 : ∀ x ∈ [u, f, d], 0 ≤ x ∧ x ≤ 9 := fun x hx => inBd_iff (List.all_eq_true.1 ha x hx)
      have hu := h9 u (by simp)
      have hf := h9 f (by simp)
      have hd := h9 d (by simp)
      obtain ⟨N, rfl⟩ := Int.eq_ofNat_of_zero_le hn.1
      obtain ⟨u, rfl⟩ := Int.eq_ofNat_of_zero_le hu.1
      obtain ⟨f, rfl⟩ := Int.eq_ofNat_of_zero_le hf.1
      obtain ⟨d, rfl⟩ := Int.eq_ofNat_of_zero_le hd.1
      have hN : N ≤ 12 := by omega
      simp only [Int.toNat_natCast] at e2
      have HMM : Hid (Calls Try.prog 82 #[.int .i64 (N : Int), cloC (w.heap.size) (w.heap.size + 1) (w.heap.size + 2)] w5 fun e w' => ∃ v, e = .returned v ∧ IRow w' w5.heap.size v (fr (fun k => gm (kU u) (kF f true) (kU d) k 0) (N + 1)) ∧ Below w5.heap.size w5 w') :=
        Lib.hid (momentsByC (kU u) (kF f true) (kU d) (W9.kc (by omega) (by omega) (by omega)) N hN _ _ _ w5 (Lib.hid fun j h wq h1 h2 _ hb => colors_clo u f d _ _ _ j h wq h1
          ((hb.cell (p := ⟨w.heap.size, 0, none⟩) (by show w.heap.size < _; have := HM5.out.2.2.2; omega)).trans HM5.out.1)
          ((hb.cell (p := ⟨w.heap.size + 1, 0, none⟩) (by show w.heap.size + 1 < _; have := HM5.out.2.2.2; omega)).trans HM5.out.2.1)
          ((hb.cell (p := ⟨w.heap.size + 2, 0, none⟩) (by show w.heap.size + 2 < _; have := HM5.out.2.2.2; omega)).trans HM5.out.2.2.1)))
      have HV : Hid (gm (kU u) (kF f true) (kU d) N 0 = ccV N u f d) := Lib.hid (by rw [e2]; exact gm_kc u f d true N 0)
      have HL : Hid ((fr (fun k => gm (kU u) (kF f true) (kU d) k 0) (N + 1)).length = N + 1) := Lib.hid (fr_length _ _)
      have HC : Hid ((fr (fun k => gm (kU u) (kF f true) (kU d) k 0) (N + 1)).getD N 0 = ccV N u f d) := Lib.hid (by rw [fr_get _ _ _ (by omega)]; exact HV.out)
      rw [e1]
      rw [hi] at HI
      rw [ha] at HJ
      clear e1 e2 hi ha HV h9
      generalize fr (fun k => gm (kU u) (kF f true) (kU d) k 0) (N + 1) = L at *
      generalize ccV N u f d = z at *
      go_enter Try.func39, Try.ntmps39
      go_wp2_with fail
      rw [← H3.out]
      go_at_call 68
      with_reducible refine HI.out.mono ?_
      rintro e w' ⟨rfl, rfl⟩
      rw [← H4.out]
      go_wp2_with fail
      go_at_call 68
      with_reducible refine HJ.out.mono ?_
      rintro e w' ⟨rfl, rfl⟩
      rw [← H5.out]
      go_wp2_with (go_at_call 82; refine HMM.out.mono ?_; rintro e w2 ⟨v, rfl, hr, hb⟩; obtain ⟨g, c, rfl, hg1, hg2⟩ := hr.form' HL.out (by omega); have k0 := hr.cell (j := N) (by rw [HL.out]; omega); rw [HC.out] at k0; have HB := Lib.hid hb; clear hr hb hg1 hg2)
      go_ret2
      exact ⟨rfl, HB5.out.trans (HB.out.mono (by have := HM5.out.2.2.2; omega))⟩
    · have e1 : ccOk n u f d = false := by rw [ccOk_in, hi, ha]; rfl
      have e2 : ccV n u f d = 0 := by rw [ccV, e1]; rfl
      rw [e1, e2]
      rw [hi] at HI
      rw [ha] at HJ
      clear e1 e2 hi ha
      go_enter Try.func39, Try.ntmps39
      go_wp2_with fail
      rw [← H3.out]
      go_at_call 68
      with_reducible refine HI.out.mono ?_
      rintro e w' ⟨rfl, rfl⟩
      rw [← H4.out]
      go_wp2_with fail
      go_at_call 68
      with_reducible refine HJ.out.mono ?_
      rintro e w' ⟨rfl, rfl⟩
      rw [← H5.out]
      go_wp2
      go_ret2
      exact ⟨rfl, HB5.out⟩
  · have e1 : ccOk n u f d = false := by rw [ccOk_in, hi]; rfl
    have e2 : ccV n u f d = 0 := by rw [ccV, e1]; rfl
    rw [e1, e2]
    rw [hi] at HI
    clear e1 e2 hi
    go_enter Try.func39, Try.ntmps39
    go_wp2_with fail
    rw [← H3.out]
    go_at_call 68
    with_reducible refine HI.out.mono ?_
    rintro e w' ⟨rfl, rfl⟩
    rw [← H4.out]
    go_wp2
    go_ret2
    exact ⟨rfl, HB4.out⟩
theorem cm_cc (n f : Int) : ccOk n 1 f 1 = cmOk n f ∧ ccV n 1 f 1 = cmV n f := by
  have h : ccOk n 1 f 1 = cmOk n f := by
    unfold ccOk cmOk ksB allB
    simp [inBd]
  refine ⟨h, ?_⟩
  unfold ccV cmV
  rw [h]
  rfl
theorem countMixed_ret (n f : Int) (w : World) : Calls Try.prog 30 #[.int .i64 n, .int .i64 f] w (Ret w (.tuple #[.int .i64 (cmV n f), .bool (cmOk n f)])) := by
  have HC : Hid (∀ w, Calls Try.prog 39 #[.int .i64 n, .int .i64 1, .int .i64 f, .int .i64 1] w (Ret w (.tuple #[.int .i64 (cmV n f), .bool (cmOk n f)]))) := Lib.hid fun w => by
    have := countColors_ret n 1 f 1 w
    rwa [(cm_cc n f).1, (cm_cc n f).2] at this
  generalize cmV n f = z at *
  generalize cmOk n f = b at *
  go_enter Try.func30, Try.ntmps30
  go_wp2_with (go_at_call 39; refine (HC.out _).mono ?_; rintro e w1 ⟨rfl, hb1⟩)
  go_ret2
  exact ⟨rfl, hb1⟩
end Go.Proofs.Ytnmmgpmhpjjehaa
