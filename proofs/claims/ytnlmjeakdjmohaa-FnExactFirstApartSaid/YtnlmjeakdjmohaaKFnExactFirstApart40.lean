/- Pack 40 of what FnExactFirstApart needs: LdI, PcI. -/
import Derived.Test.YtnlmjeakdjmohaaKFnExactFirstApart39
/- The program's leadNorthWest, CountApart. -/
namespace Go.Proofs.Ytnlmjeakdjmohaa
open Go.RowKit
set_option linter.unusedVariables false
def e_ld4 (g o n c j : Nat) (a b p q : Int) : Nat → Value
  | 0 => .slice (some ⟨g, o, none⟩) n c
  | 1 => .int .i64 ((j : Int) + 1)
  | 2 => .int .i64 (j : Int)
  | 3 => .pointer (some ⟨g, o + j * 2, none⟩)
  | 4 => .agg #[.int .i64 a, .int .i64 b]
  | 5 => .agg #[.int .i64 a, .int .i64 b]
  | 6 => .slice (some ⟨g, o, none⟩) n c
  | 7 => .int .i64 ((j : Int) + 1)
  | 8 => .pointer (some ⟨g, o + (j + 1) * 2, none⟩)
  | 9 => .agg #[.int .i64 p, .int .i64 q]
  | 10 => .agg #[.int .i64 p, .int .i64 q]
  | _ => undef
def v_ld4 (j : Nat) : Bool := ([true, true, true, true, true, true, true, true, true, true, true, false, false, false, false] : List Bool).getD j false
def t0_ld4 (g o n c j : Nat) (a b p q : Int) : BoxG := ⟨11, 13, false, fun b => .pointer (some ⟨b, 0, none⟩), 103, [.int .i64 0, .int .i64 0], [.int .i64 a, .int .i64 b]⟩
def t1_ld4 (g o n c j : Nat) (a b p q : Int) : BoxG := ⟨12, 14, false, fun b => .pointer (some ⟨b, 0, none⟩), 103, [.int .i64 0, .int .i64 0], [.int .i64 p, .int .i64 q]⟩
def b_ld4 (g o n c j : Nat) (a b p q : Int) : List BoxG := [t0_ld4 g o n c j a b p q, t1_ld4 g o n c j a b p q]
theorem m0_ld4 (g o n c j : Nat) (a b p q : Int) : t0_ld4 g o n c j a b p q ∈ b_ld4 g o n c j a b p q := by simp [b_ld4]
theorem m1_ld4 (g o n c j : Nat) (a b p q : Int) : t1_ld4 g o n c j a b p q ∈ b_ld4 g o n c j a b p q := by simp [b_ld4]
theorem ok_ld4 (g o n c j : Nat) (a b p q : Int) : OkG v_ld4 (b_ld4 g o n c j a b p q) := by
  refine ⟨?_, ?_, ?_, ?_, ?_, ?_⟩ <;> simp [b_ld4, v_ld4, t0_ld4, t1_ld4]
theorem td_iff {bx bY ax aY : Int} : tdP bx bY ax aY = true ↔ (bx ≤ ax ∧ aY ≤ bY) ∧ ¬ (ax = bx ∧ aY = bY) := by
  unfold tdP
  simp only [Bool.and_eq_true, Bool.not_eq_true', Bool.or_eq_false_iff, decide_eq_false_iff_not, Bool.and_eq_false_iff, beq_eq_false_iff_ne]
  omega
/-- neighbours tell -/
theorem tdB_near {n : Nat} {xs : List Int} (h : ∀ j, j + 1 < n → tdC xs (j + 1) j = true) : tdB n xs = true := by
  refine tdB_yes fun j hj i hi => ?_
  induction j with
  | zero => omega
  | succ j ih =>
    have h1 := h j hj
    by_cases e : i = j
    · subst e; exact h1
    · have h2 := ih (by omega) (by omega)
      unfold tdC at *
      rw [td_iff] at *
      omega
set_option maxRecDepth 100000 in
set_option maxHeartbeats 4000000 in
theorem leadNW_any (v : Value) (n : Nat) (xs : List Int) (w : World) (h : RCels w v n xs) (h1 : 1 ≤ n) (hn : n ≤ 4) : Calls Try.prog 118 #[v] w (Ret w (.bool (tdB n xs))) := by
  have HR := Lib.hid h
  have HC : Hid (∀ x y w, Calls Try.prog 121 #[celV x y] w (Ret w (celV x y))) := Lib.hid cellPlace_ret
  have HE := eq_place
  have HN : Hid (∀ j, j + 1 < n → tdC xs (j + 1) j = false → tdB n xs = false) := Lib.hid fun j hj h => tdB_no hj (Nat.lt_succ_self j) h
  have HY : Hid ((∀ j, j + 1 < n → tdC xs (j + 1) j = true) → tdB n xs = true) := Lib.hid tdB_near
  obtain ⟨g, o, c, rfl, hg, -⟩ := h.cells (by omega)
  clear h hg
  generalize tdB n xs = T at *
  go_enter Try.func118, Try.ntmps118
  go_wp2_with fail
  go_loopw [3] (fun i wr => ∃ j : Nat, j + 1 ≤ n ∧ i = .int .i64 ((j : Int) + 1) ∧ (∀ p, p < j → tdC xs (p + 1) p = true) ∧ Below w.heap.size w wr) (fun i _ => n - (intOf i).toNat)
  case atStart => exact ⟨0, h1, rfl, fun p hp => absurd hp (by omega), Below.refl _ _⟩
  case round =>
    obtain ⟨j, hj, rfl, hall, hb⟩ := hrel
    by_cases hlt : j + 1 < n
    · have i1 : (j : Int) + 1 < (n : Int) := by omega
      have i2 : 0 ≤ (j : Int) := by omega
      have i3 : (j : Int) < (n : Int) := by omega
      have HALL := Lib.hid hall
      have HB := Lib.hid hb
      obtain ⟨a, hva⟩ : ∃ a, xs.getD (j * 2) 0 = a := ⟨_, rfl⟩
      obtain ⟨b, hvb⟩ : ∃ b, xs.getD (j * 2 + 1) 0 = b := ⟨_, rfl⟩
      obtain ⟨p, hvp⟩ : ∃ p, xs.getD ((j + 1) * 2) 0 = p := ⟨_, rfl⟩
      obtain ⟨q, hvq⟩ : ∃ q, xs.getD ((j + 1) * 2 + 1) 0 = q := ⟨_, rfl⟩
      have HTD : Hid (tdC xs (j + 1) j = tdP p q a b) := Lib.hid (by unfold tdC; rw [hva, hvb, hvp, hvq])
      have HVa := Lib.hid hva
      have HVb := Lib.hid hvb
      have HVp := Lib.hid hvp
      have HVq := Lib.hid hvq
      clear hall hb hva hvb hvp hvq
      go_wp2_with fail
      have HRG0 : ∀ (ac : Act) (ww : World), ∃ (uu : Nat → Value) (bb : Nat → Nat), ac = (((((((((((((ac.put (some 12) (uu 0)).put (some 13) (uu 1)).put (some 14) (uu 2)).put (some 15) (uu 3)).put (some 16) (uu 4)).put (some 17) (uu 5)).put (some 18) (uu 6)).put (some 19) (uu 7)).put (some 20) (uu 8)).put (some 21) (uu 9)).put (some 22) (uu 10)).put (some 4) (uu 11)).put (some 5) (uu 12)) ∧ RG ww (e_ld4 g o n c j a b p q) v_ld4 (b_ld4 g o n c j a b p q) (fun _ => false) ww.drew uu bb := fun ac ww => ⟨fun j => ac.tmps.getD (([12, 13, 14, 15, 16, 17, 18, 19, 20, 21, 22, 4, 5, 0, 0] : List Nat).getD j 0) undef, fun _ => 0, (by show ac = (((((((((((((ac.put (some 12) (ac.tmps.getD 12 undef)).put (some 13) (ac.tmps.getD 13 undef)).put (some 14) (ac.tmps.getD 14 undef)).put (some 15) (ac.tmps.getD 15 undef)).put (some 16) (ac.tmps.getD 16 undef)).put (some 17) (ac.tmps.getD 17 undef)).put (some 18) (ac.tmps.getD 18 undef)).put (some 19) (ac.tmps.getD 19 undef)).put (some 20) (ac.tmps.getD 20 undef)).put (some 21) (ac.tmps.getD 21 undef)).put (some 22) (ac.tmps.getD 22 undef)).put (some 4) (ac.tmps.getD 4 undef)).put (some 5) (ac.tmps.getD 5 undef)); simp only [put_same]), RG.start _ _⟩
      refine wp_region_inv3 (fun a0 LL ac W => ∃ (uu : Nat → Value) (bb : Nat → Nat), ac = (((((((((((((a0.put (some 12) (uu 0)).put (some 13) (uu 1)).put (some 14) (uu 2)).put (some 15) (uu 3)).put (some 16) (uu 4)).put (some 17) (uu 5)).put (some 18) (uu 6)).put (some 19) (uu 7)).put (some 20) (uu 8)).put (some 21) (uu 9)).put (some 22) (uu 10)).put (some 4) (uu 11)).put (some 5) (uu 12)) ∧ RG wr (e_ld4 g o n c j a b p q) v_ld4 (b_ld4 g o n c j a b p q) LL W uu bb) (by kernel_rfl) (by kernel_rfl) (HRG0 _ _) ?_ ?_
      · rintro jj op hop LL a' WW ⟨uu, bb, rfl, hF⟩ hL hdep
        clear HRG0
        match jj, hop with
        | 0, hop =>
          simp at hop; subst hop
          refine wpOp_run rfl rfl ?_
          simp only [Act.put, List.setIfInBounds_toArray, List.set_cons_succ, List.set_cons_zero]
          go_simp
          refine ⟨_, ?_, _, hF.setv (ok_ld4 g o n c j a b p q) 0 rfl (.slice (some ⟨g, o, none⟩) n c) rfl⟩
          simp [upg]
        | 1, hop =>
          simp at hop; subst hop
          refine wpOp_run rfl rfl ?_
          simp only [Act.put, List.setIfInBounds_toArray, List.set_cons_succ, List.set_cons_zero]
          go_simp
          refine ⟨_, ?_, _, hF.setv (ok_ld4 g o n c j a b p q) 1 rfl (.int .i64 ((j : Int) + 1)) rfl⟩
          simp [upg]
        | 2, hop =>
          simp at hop; subst hop
          refine wpOp_run rfl rfl ?_
          simp only [Act.put, List.setIfInBounds_toArray, List.set_cons_succ, List.set_cons_zero]
          have e1 : uu 1 = .int .i64 ((j : Int) + 1) := hF.val 1 rfl (hdep ⟨1, .data⟩ (by simp) rfl)
          simp only [e1]
          have k1 := IntWalk.i64_in ((j : Int) + 1 - 1) (by omega)
          have k2 : (j : Int) + 1 - 1 = (j : Int) := by omega
          rw [k2] at k1
          go_simp
          refine ⟨_, ?_, _, hF.setv (ok_ld4 g o n c j a b p q) 2 rfl (.int .i64 (j : Int)) rfl⟩
          simp [upg, e1]
        | 3, hop =>
          simp at hop; subst hop
          refine wpOp_run rfl rfl ?_
          simp only [Act.put, List.setIfInBounds_toArray, List.set_cons_succ, List.set_cons_zero]
          have e0 : uu 0 = .slice (some ⟨g, o, none⟩) n c := hF.val 0 rfl (hdep ⟨0, .data⟩ (by simp) rfl)
          have e2 : uu 2 = .int .i64 (j : Int) := hF.val 2 rfl (hdep ⟨2, .data⟩ (by simp) rfl)
          simp only [e0, e2]
          go_simp
          refine ⟨_, ?_, _, hF.setv (ok_ld4 g o n c j a b p q) 3 rfl (.pointer (some ⟨g, o + j * 2, none⟩)) rfl⟩
          simp [upg, e0, e2]
        | 4, hop =>
          simp at hop; subst hop
          refine wpOp_run rfl rfl ?_
          simp only [Act.put, List.setIfInBounds_toArray, List.set_cons_succ, List.set_cons_zero]
          have e3 : uu 3 = .pointer (some ⟨g, o + j * 2, none⟩) := hF.val 3 rfl (hdep ⟨3, .data⟩ (by simp) rfl)
          simp only [e3]
          have hr := (HR.out.below (HB.out.trans (hF.below.mono HB.out.size))).at (k := j) (by omega)
          have r0 := hr.1
          have r1 := hr.2
          rw [HVa.out] at r0
          rw [HVb.out] at r1
          clear hr
          go_simp
          refine ⟨_, ?_, _, hF.setv (ok_ld4 g o n c j a b p q) 4 rfl (.agg #[.int .i64 a, .int .i64 b]) rfl⟩
          simp [upg, e3]
        | 5, hop =>
          simp at hop; subst hop
          refine wpOp_run rfl rfl ?_
          simp only [Act.put, List.setIfInBounds_toArray, List.set_cons_succ, List.set_cons_zero]
          have e4 : uu 4 = .agg #[.int .i64 a, .int .i64 b] := hF.val 4 rfl (hdep ⟨4, .data⟩ (by simp) rfl)
          simp only [e4]
          go_simp
          go_at_call 121
          refine (HC.out _ _ _).mono ?_
          rintro en w' ⟨rfl, hbC⟩
          refine ⟨_, ?_, _, (hF.kept hbC).setv (ok_ld4 g o n c j a b p q) 5 rfl (.agg #[.int .i64 a, .int .i64 b]) rfl⟩
          simp [upg, e4]
        | 6, hop =>
          simp at hop; subst hop
          refine wpOp_run rfl rfl ?_
          simp only [Act.put, List.setIfInBounds_toArray, List.set_cons_succ, List.set_cons_zero]
          go_simp
          refine ⟨_, ?_, _, hF.setv (ok_ld4 g o n c j a b p q) 6 rfl (.slice (some ⟨g, o, none⟩) n c) rfl⟩
          simp [upg]
        | 7, hop =>
          simp at hop; subst hop
          refine wpOp_run rfl rfl ?_
          simp only [Act.put, List.setIfInBounds_toArray, List.set_cons_succ, List.set_cons_zero]
          go_simp
          refine ⟨_, ?_, _, hF.setv (ok_ld4 g o n c j a b p q) 7 rfl (.int .i64 ((j : Int) + 1)) rfl⟩
          simp [upg]
        | 8, hop =>
          simp at hop; subst hop
          refine wpOp_run rfl rfl ?_
          simp only [Act.put, List.setIfInBounds_toArray, List.set_cons_succ, List.set_cons_zero]
          have e6 : uu 6 = .slice (some ⟨g, o, none⟩) n c := hF.val 6 rfl (hdep ⟨6, .data⟩ (by simp) rfl)
          have e7 : uu 7 = .int .i64 ((j : Int) + 1) := hF.val 7 rfl (hdep ⟨7, .data⟩ (by simp) rfl)
          simp only [e6, e7]
          have i6 : 0 ≤ (j : Int) + 1 := by omega
          have k5 : ((j : Int) + 1).toNat = j + 1 := by omega
          go_simp
          refine ⟨_, ?_, _, hF.setv (ok_ld4 g o n c j a b p q) 8 rfl (.pointer (some ⟨g, o + (j + 1) * 2, none⟩)) rfl⟩
          simp [upg, e6, e7]
        | 9, hop =>
          simp at hop; subst hop
          refine wpOp_run rfl rfl ?_
          simp only [Act.put, List.setIfInBounds_toArray, List.set_cons_succ, List.set_cons_zero]
          have e8 : uu 8 = .pointer (some ⟨g, o + (j + 1) * 2, none⟩) := hF.val 8 rfl (hdep ⟨8, .data⟩ (by simp) rfl)
          simp only [e8]
          have hr := (HR.out.below (HB.out.trans (hF.below.mono HB.out.size))).at (k := j + 1) (by omega)
          have r0 := hr.1
          have r1 := hr.2
          rw [HVp.out] at r0
          rw [HVq.out] at r1
          clear hr
          go_simp
          refine ⟨_, ?_, _, hF.setv (ok_ld4 g o n c j a b p q) 9 rfl (.agg #[.int .i64 p, .int .i64 q]) rfl⟩
          simp [upg, e8]
        | 10, hop =>
          simp at hop; subst hop
          refine wpOp_run rfl rfl ?_
          simp only [Act.put, List.setIfInBounds_toArray, List.set_cons_succ, List.set_cons_zero]
          have e9 : uu 9 = .agg #[.int .i64 p, .int .i64 q] := hF.val 9 rfl (hdep ⟨9, .data⟩ (by simp) rfl)
          simp only [e9]
          go_simp
          go_at_call 121
          refine (HC.out _ _ _).mono ?_
          rintro en w' ⟨rfl, hbC⟩
          refine ⟨_, ?_, _, (hF.kept hbC).setv (ok_ld4 g o n c j a b p q) 10 rfl (.agg #[.int .i64 p, .int .i64 q]) rfl⟩
          simp [upg, e9]
        | 11, hop =>
          simp at hop; subst hop
          refine wpOp_run rfl rfl ?_
          simp only [Act.put, List.setIfInBounds_toArray, List.set_cons_succ, List.set_cons_zero]
          have HAL := hF.alloc (ok_ld4 g o n c j a b p q) (t0_ld4 g o n c j a b p q) (m0_ld4 g o n c j a b p q) hL
          simp only [t0_ld4] at HAL
          go_simp
          refine ⟨_, ?_, _, HAL⟩
          simp [upg]
        | 12, hop =>
          simp at hop; subst hop
          refine wpOp_run rfl rfl ?_
          simp only [Act.put, List.setIfInBounds_toArray, List.set_cons_succ, List.set_cons_zero]
          have HAL := hF.alloc (ok_ld4 g o n c j a b p q) (t1_ld4 g o n c j a b p q) (m1_ld4 g o n c j a b p q) hL
          simp only [t1_ld4] at HAL
          go_simp
          refine ⟨_, ?_, _, HAL⟩
          simp [upg]
        | 13, hop =>
          simp at hop; subst hop
          refine wpOp_run rfl rfl ?_
          simp only [Act.put, List.setIfInBounds_toArray, List.set_cons_succ, List.set_cons_zero]
          have e5 : uu 5 = .agg #[.int .i64 a, .int .i64 b] := hF.val 5 rfl (hdep ⟨5, .data⟩ (by simp) rfl)
          have dp := hdep ⟨11, .data⟩ (by simp) rfl
          obtain ⟨ep, k2, k3, k4, _⟩ := hF.box (t0_ld4 g o n c j a b p q) (m0_ld4 g o n c j a b p q) dp
          have HST := hF.store (ok_ld4 g o n c j a b p q) (t0_ld4 g o n c j a b p q) (m0_ld4 g o n c j a b p q) rfl dp hL
          simp only [t0_ld4, hL, Bool.false_eq_true, and_false, if_false] at k4
          have s0 := k4 0 _ rfl
          have sc0 := s0.1; have sf0 := s0.2; clear s0
          have s1 := k4 1 _ rfl
          have sc1 := s1.1; have sf1 := s1.2; clear s1
          simp only [RG.setN, t0_ld4, Nat.zero_add] at HST ep
          simp only [e5, ep]
          clear hF k4 k2 k3 dp
          go_simp
          refine ⟨_, ?_, _, HST⟩
          simp [e5, ep]
        | 14, hop =>
          simp at hop; subst hop
          refine wpOp_run rfl rfl ?_
          simp only [Act.put, List.setIfInBounds_toArray, List.set_cons_succ, List.set_cons_zero]
          have e10 : uu 10 = .agg #[.int .i64 p, .int .i64 q] := hF.val 10 rfl (hdep ⟨10, .data⟩ (by simp) rfl)
          have dp := hdep ⟨12, .data⟩ (by simp) rfl
          obtain ⟨ep, k2, k3, k4, _⟩ := hF.box (t1_ld4 g o n c j a b p q) (m1_ld4 g o n c j a b p q) dp
          have HST := hF.store (ok_ld4 g o n c j a b p q) (t1_ld4 g o n c j a b p q) (m1_ld4 g o n c j a b p q) rfl dp hL
          simp only [t1_ld4, hL, Bool.false_eq_true, and_false, if_false] at k4
          have s0 := k4 0 _ rfl
          have sc0 := s0.1; have sf0 := s0.2; clear s0
          have s1 := k4 1 _ rfl
          have sc1 := s1.1; have sf1 := s1.2; clear s1
          simp only [RG.setN, t1_ld4, Nat.zero_add] at HST ep
          simp only [e10, ep]
          clear hF k4 k2 k3 dp
          go_simp
          refine ⟨_, ?_, _, HST⟩
          simp [e10, ep]
        | jj + 15, hop => simp at hop
      · rintro LL a' WW hall ⟨uu, bb, rfl, hF⟩
        clear HRG0
        have e0 : uu 0 = .slice (some ⟨g, o, none⟩) n c := hF.val 0 rfl (hall 0 (by simp))
        have e1 : uu 1 = .int .i64 ((j : Int) + 1) := hF.val 1 rfl (hall 1 (by simp))
        have e2 : uu 2 = .int .i64 (j : Int) := hF.val 2 rfl (hall 2 (by simp))
        have e3 : uu 3 = .pointer (some ⟨g, o + j * 2, none⟩) := hF.val 3 rfl (hall 3 (by simp))
        have e4 : uu 4 = .agg #[.int .i64 a, .int .i64 b] := hF.val 4 rfl (hall 4 (by simp))
        have e5 : uu 5 = .agg #[.int .i64 a, .int .i64 b] := hF.val 5 rfl (hall 5 (by simp))
        have e6 : uu 6 = .slice (some ⟨g, o, none⟩) n c := hF.val 6 rfl (hall 6 (by simp))
        have e7 : uu 7 = .int .i64 ((j : Int) + 1) := hF.val 7 rfl (hall 7 (by simp))
        have e8 : uu 8 = .pointer (some ⟨g, o + (j + 1) * 2, none⟩) := hF.val 8 rfl (hall 8 (by simp))
        have e9 : uu 9 = .agg #[.int .i64 p, .int .i64 q] := hF.val 9 rfl (hall 9 (by simp))
        have e10 : uu 10 = .agg #[.int .i64 p, .int .i64 q] := hF.val 10 rfl (hall 10 (by simp))
        obtain ⟨ep0, lo0, hi0, q0, _⟩ := hF.box (t0_ld4 g o n c j a b p q) (m0_ld4 g o n c j a b p q) (hall 11 (by simp))
        simp only [t0_ld4, show LL 13 = true from hall 13 (by simp), and_self, if_true] at q0
        simp only [t0_ld4] at ep0 lo0 hi0
        have bc00 := (q0 0 _ rfl).1
        have bc01 := (q0 1 _ rfl).1
        clear q0
        obtain ⟨ep1, lo1, hi1, q1, _⟩ := hF.box (t1_ld4 g o n c j a b p q) (m1_ld4 g o n c j a b p q) (hall 12 (by simp))
        simp only [t1_ld4, show LL 14 = true from hall 14 (by simp), and_self, if_true] at q1
        simp only [t1_ld4] at ep1 lo1 hi1
        have bc10 := (q1 0 _ rfl).1
        have bc11 := (q1 1 _ rfl).1
        clear q1
        have ne01 : bb 11 ≠ bb 12 := hF.sep (t0_ld4 g o n c j a b p q) (m0_ld4 g o n c j a b p q) (t1_ld4 g o n c j a b p q) (m1_ld4 g o n c j a b p q) (by simp [t0_ld4, t1_ld4]) (hall 11 (by simp)) (hall 12 (by simp))
        have HBL := Lib.hid hF.below
        clear hF hall
        simp only [Act.put, List.setIfInBounds_toArray, List.set_cons_succ, List.set_cons_zero]
        simp only [e0, e1, e2, e3, e4, e5, e6, e7, e8, e9, e10, ep0, ep1]
        clear e0 e1 e2 e3 e4 e5 e6 e7 e8 e9 e10 ep0 ep1
        generalize bb 11 = b0 at *
        generalize bb 12 = b1 at *
        have HBW := Lib.hid (HB.out.trans (HBL.out.mono HB.out.size))
        clear HBL lo0 lo1 hi0 hi1 ne01
        by_cases e1 : p = a
        · have t1 : (p == a) = true := by rw [e1]; simp
          by_cases e2 : q = b
          · have t2 : (q == b) = true := by rw [e2]; simp
            have HT := Lib.hid (HN.out j hlt (by rw [HTD.out, e1, e2]; simp [tdP]))
            clear HTD e1 e2
            go_wp2_with fail
            go_ret
            exact ⟨by rw [HT.out]; rfl, HBW.out⟩
          · have t2 : (q == b) = false := beq_eq_false_iff_ne.2 e2
            have i5 : ¬ a < p := by omega
            by_cases e3 : q < b
            · have HT := Lib.hid (HN.out j hlt (by rw [HTD.out]; simp [tdP, e3]))
              clear HTD e1 e2
              go_wp2_with fail
              go_ret
              exact ⟨by rw [HT.out]; rfl, HBW.out⟩
            · have HT1 : Hid (tdC xs (j + 1) j = true) := Lib.hid (by rw [HTD.out]; unfold tdP; rw [decide_eq_false i5, decide_eq_false e3, beq_eq_false_iff_ne.2 (fun h : b = q => e2 h.symm)]; simp)
              clear HTD e1 e2
              go_wp2_with fail
              go_roundw
              case rel => exact ⟨j + 1, by omega, by go_num, fun r hr => by
                rcases Nat.lt_or_ge r j with h | h
                · exact HALL.out r h
                · obtain rfl : r = j := by omega
                  exact HT1.out, HBW.out⟩
              case measure => first | (simp [intOf]; done) | (simp [intOf]; omega)
        · have t1 : (p == a) = false := beq_eq_false_iff_ne.2 e1
          by_cases e3 : a < p
          · have HT := Lib.hid (HN.out j hlt (by rw [HTD.out]; simp [tdP, e3]))
            clear HTD e1
            go_wp2_with fail
            go_ret
            exact ⟨by rw [HT.out]; rfl, HBW.out⟩
          · by_cases e4 : q < b
            · have HT := Lib.hid (HN.out j hlt (by rw [HTD.out]; simp [tdP, e4]))
              clear HTD e1
              go_wp2_with fail
              go_ret
              exact ⟨by rw [HT.out]; rfl, HBW.out⟩
            · have HT1 : Hid (tdC xs (j + 1) j = true) := Lib.hid (by rw [HTD.out]; unfold tdP; rw [decide_eq_false e3, decide_eq_false e4, beq_eq_false_iff_ne.2 (fun h : a = p => e1 h.symm)]; simp)
              clear HTD e1
              go_wp2_with fail
              go_roundw
              case rel => exact ⟨j + 1, by omega, by go_num, fun r hr => by
                rcases Nat.lt_or_ge r j with h | h
                · exact HALL.out r h
                · obtain rfl : r = j := by omega
                  exact HT1.out, HBW.out⟩
              case measure => first | (simp [intOf]; done) | (simp [intOf]; omega)
    · have HT := Lib.hid (HY.out fun k hk => hall k (by omega))
      have HB := Lib.hid hb
      have i1 : ¬ (j : Int) + 1 < (n : Int) := by omega
      clear hall hb
      go_wp2_with fail
      go_ret
      exact ⟨by rw [HT.out]; rfl, HB.out⟩
set_option maxRecDepth 100000 in
set_option maxHeartbeats 2000000 in
theorem countApartI_ret (v1 v2 : Value) (n m : Nat) (xs ys : List Int) (w : World) (h1 : RCels w v1 n xs) (h2 : RCels w v2 m ys) (hn : n ≤ 1048576) (hm : m ≤ 1048576) :
    Calls Try.prog 74 #[v1, v2] w (Ret w (.tuple #[.int .i64 (cpV n xs m ys), .bool (askC n xs m ys)])) := by
  have HW := Lib.hid (waysMatrixI_ret v1 v2 n m xs ys w h1 h2 hn hm)
  have hH1 := Lib.hid h1
  have hH2 := Lib.hid h2
  obtain ⟨A1, p1, rfl⟩ := h1.shape
  obtain ⟨A2, p2, rfl⟩ := h2.shape
  clear h1 h2
  unfold cpV askC
  rcases Bool.eq_false_or_eq_true (gdB n xs m ys) with a1 | a1
  case inr =>
    rw [a1] at HW ⊢
    simp only [Bool.false_and, Bool.false_eq_true, if_false]
    generalize wyT n xs m ys = T at *
    clear a1
    go_enter Try.func74, Try.ntmps74
    go_wp2_with fail
    refine HW.out.mono ?_
    rintro e w1 ⟨u, vs, rfl, ht, hb1⟩
    obtain ⟨A3, c3, rfl⟩ := ht.out.shape
    clear ht
    go_wp2_with fail
    go_ret2
    exact ⟨rfl, hb1⟩
  obtain ⟨hmn, h4, hgx, hgy⟩ := gdB_of a1
  have h0 : 1 ≤ n := by
    unfold gdB at a1
    rw [Bool.and_eq_true, Bool.and_eq_true] at a1
    have := inBd_if6 a1.1.1
    omega
  have e1 : wyT n xs m ys = wmT xs ys m n := by unfold wyT; rw [if_pos a1]
  have HL1 : Hid (∀ w', Below w.heap.size w w' → Calls Try.prog 118 #[.slice A1 n p1] w' (Ret w' (.bool (tdB n xs)))) := Lib.hid fun w' hb => leadNW_any _ n xs w' (hH1.out.below hb) h0 h4
  have HL2 : Hid (∀ w', Below w.heap.size w w' → Calls Try.prog 118 #[.slice A2 m p2] w' (Ret w' (.bool (tdB m ys)))) := Lib.hid fun w' hb => leadNW_any _ m ys w' (hH2.out.below hb) (by omega) (by omega)
  have hwl := wmT_length xs ys m n
  have hwg := fun k => wmR_get xs ys m n k
  have HD : Hid (∀ u w', MRows w' u (wmT xs ys m n) → Calls Try.prog 119 #[u] w' (Ret w' (.tuple #[.int .i64 (dtmV (wmT xs ys m n)), .bool (dtmOk (wmT xs ys m n))]))) := Lib.hid fun u w' hm => determinantI_ret u _ w' hm (fun k hk => Nat.le_trans (hwg k) (by omega)) (by rw [hwl]; omega)
  have e2 : dtmV (wmT xs ys m n) = if smT (wmT xs ys m n) = true then detF n (wmT xs ys m n) else 0 := by unfold dtmV; rw [hwl]
  have e3 : dtmOk (wmT xs ys m n) = smT (wmT xs ys m n) := rfl
  rw [a1, e1] at HW
  rw [e2, e3] at HD
  rw [a1]
  have HWL := Lib.hid hwl
  clear hgx hgy a1 e1 e2 e3 hwg hwl hmn
  generalize wmT xs ys m n = T at *
  generalize detF n T = D at *
  generalize smT T = SM at *
  rcases Bool.eq_false_or_eq_true (tdB n xs) with a2 | a2
  case inr =>
    rw [a2] at HL1 ⊢
    simp only [Bool.and_false, Bool.false_and, Bool.false_eq_true, if_false]
    clear a2
    go_enter Try.func74, Try.ntmps74
    go_wp2_with fail
    refine HW.out.mono ?_
    rintro e w1 ⟨u, vs, rfl, ht, hb1⟩
    obtain ⟨A3, c3, rfl⟩ := ht.out.shape
    have HB1 := Lib.hid hb1
    clear ht hb1
    go_wp2_with fail
    refine (HL1.out _ HB1.out).mono ?_
    rintro e w2 ⟨rfl, hb2⟩
    have HB2 := Lib.hid (HB1.out.trans (hb2.mono HB1.out.size))
    clear hb2
    go_wp2_with fail
    go_ret2
    exact ⟨rfl, HB2.out⟩
  rcases Bool.eq_false_or_eq_true (tdB m ys) with a3 | a3
  case inr =>
    rw [a2] at HL1 ⊢
    rw [a3] at HL2 ⊢
    simp only [Bool.and_false, Bool.false_and, Bool.false_eq_true, if_false]
    clear a2 a3
    go_enter Try.func74, Try.ntmps74
    go_wp2_with fail
    refine HW.out.mono ?_
    rintro e w1 ⟨u, vs, rfl, ht, hb1⟩
    obtain ⟨A3, c3, rfl⟩ := ht.out.shape
    have HB1 := Lib.hid hb1
    clear ht hb1
    go_wp2_with fail
    refine (HL1.out _ HB1.out).mono ?_
    rintro e w2 ⟨rfl, hb2⟩
    have HB2 := Lib.hid (HB1.out.trans (hb2.mono HB1.out.size))
    clear hb2
    go_wp2_with fail
    refine (HL2.out _ HB2.out).mono ?_
    rintro e w3 ⟨rfl, hb3⟩
    have HB3 := Lib.hid (HB2.out.trans (hb3.mono HB2.out.size))
    clear hb3
    go_wp2_with fail
    go_ret2
    exact ⟨rfl, HB3.out⟩
  rw [a2] at HL1 ⊢
  rw [a3] at HL2 ⊢
  simp only [Bool.and_true, Bool.true_and]
  generalize (if SM = true then D else 0) = DV at *
  clear a2 a3
  go_enter Try.func74, Try.ntmps74
  go_wp2_with fail
  refine HW.out.mono ?_
  rintro e w1 ⟨u, vs, rfl, ht, hb1⟩
  obtain ⟨A3, c3, rfl⟩ := ht.out.shape
  have HB1 := Lib.hid hb1
  have HT1 := Lib.hid ht
  clear ht hb1
  go_wp2_with fail
  refine (HL1.out _ HB1.out).mono ?_
  rintro e w2 ⟨rfl, hb2⟩
  have HB2 := Lib.hid (HB1.out.trans (hb2.mono HB1.out.size))
  have HT2 := Lib.hid (HT1.out.below hb2)
  clear hb2
  go_wp2_with fail
  refine (HL2.out _ HB2.out).mono ?_
  rintro e w3 ⟨rfl, hb3⟩
  have HB3 := Lib.hid (HB2.out.trans (hb3.mono HB2.out.size))
  have HT3 := Lib.hid (HT2.out.below hb3)
  clear hb3
  go_wp2_with fail
  refine (HD.out _ _ HT3.out.mrows).mono ?_
  rintro e w4 ⟨rfl, hb4⟩
  have HB4 := Lib.hid (HB3.out.trans (hb4.mono HB3.out.size))
  clear hb4
  go_wp2_with fail
  go_ret2
  exact ⟨rfl, HB4.out⟩
end Go.Proofs.Ytnlmjeakdjmohaa

/- The program's placesOf. -/
namespace Go.Proofs.Ytnlmjeakdjmohaa
open Go.RowKit
set_option linter.unusedVariables false
set_option maxRecDepth 100000 in
set_option maxHeartbeats 4000000 in
theorem placesOf_any (x y : Int) (s : ByteArray) (w : World) (hs : s.size ≤ maxLen) : Calls Try.prog 76 #[wayV x y s] w (PsRet w (wayB x y s) (ncN x y s) (ncX x y s)) := by
  have HX := Lib.hid (WBox.start w x y s)
  have c0 := HX.out.c0
  have c1 := HX.out.c1
  have c2 := HX.out.c2
  have HC : Hid (∀ x y w, Calls Try.prog 122 #[celV x y] w (Ret w (.bool (cellB x y)))) := Lib.hid isCellI_ret
  have HCP : Hid (∀ x y w, Calls Try.prog 121 #[celV x y] w (Ret w (celV x y))) := Lib.hid cellPlace_ret
  have HPC : Hid (∀ x y w, Calls Try.prog 124 #[celV x y] w (Ret w (celV x y))) := Lib.hid placeCell_ret
  have HS := Lib.hid hs
  rcases Bool.eq_false_or_eq_true (cellB x y) with a1 | a1
  · have HW : Hid (∀ j : Nat, okW s x y j = false → j ≤ s.size → wayB x y s = false) := Lib.hid (by
      intro j h hk
      rw [← wayB_alt, okW_no h hk, Bool.and_false])
    have HY : Hid (okW s x y s.size = true → wayB x y s = true) := Lib.hid (by
      intro h
      rw [← wayB_alt, h, a1]
      rfl)
    have HA1 := Lib.hid a1
    have HC0 : Hid (∀ w, Calls Try.prog 122 #[celV x y] w (Ret w (.bool true))) := Lib.hid fun w => by rw [← a1]; exact isCellI_ret x y w
    clear a1
    go_enter Try.func76, Try.ntmps76
    go_wp2_with fail
    refine (HC0.out _).mono ?_
    rintro e wa ⟨rfl, hba⟩
    have hx := HX.out.kept hba
    clear c0 c1 c2
    have c0 := hx.c0
    have c1 := hx.c1
    have HX1 := Lib.hid hx
    clear hx hba
    go_wp2_with fail
    refine (HCP.out _ _ _).mono ?_
    rintro e wb ⟨rfl, hbb⟩
    have hx := HX1.out.kept hbb
    clear c0 c1
    have c2 := hx.c2
    have HX2 := Lib.hid hx
    have HWB : Hid (Below w.heap.size w wb ∧ w.heap.size < wb.heap.size) := Lib.hid ⟨hx.below, hx.lt⟩
    clear hx hbb
    go_upto_region 5 with fail
    refine wp_nameN (fun X => PcAt w wb x y s wb.heap.size (.slice (some ⟨wb.heap.size + 1, 0, none⟩) 1 1) 1 (clF s x y 0) x y X) ?_ ?_
    · have hb : Below wb.heap.size wb (wb.alloc (.cells #[.int .i64 x, .int .i64 y] 103)) := (Below.refl _ _).alloc (Nat.le_refl _) _
      have hr := one_place (wb.alloc (.cells #[.int .i64 x, .int .i64 y] 103)) x y
      have hsz : (wb.alloc (.cells #[.int .i64 x, .int .i64 y] 103)).heap.size = wb.heap.size + 1 := by simp
      rw [hsz] at hr
      refine ⟨(HX2.out.kept hb).kept ((Below.refl _ _).alloc (Nat.le_refl _) _), by rw [clF_zero]; exact hr.mono (by omega), fun q hq e => ?_, by simp [go_sem], by simp [go_sem], by simp [go_sem], by simp [go_sem], by simp; omega, Nat.le_refl _, HX2.out.lt⟩
      have := (hr.blk q hq).1
      omega
    intro X hat0
    have b2 := hat0.box.c2
    have HN0 := Lib.hid hat0
    clear hat0 c2
    go_wp2_with fail
    go_loopw [5, 21] (fun o q wq => ∃ k : Nat, k ≤ s.size ∧ q = .int .i64 (k : Int) ∧ okW s x y k = true ∧ PcAt w wb x y s wb.heap.size o (k + 1) (clF s x y k) (cX s x k) (cY s y k) wq) (fun _ q _ => s.size - (intOf q).toNat)
    case atStart => exact ⟨0, Nat.zero_le _, rfl, rfl, HN0.out⟩
    case round =>
      obtain ⟨k, hk, rfl, hok, hat⟩ := hrel
      clear HN0 b2
      obtain ⟨A1, cc, rfl⟩ := hat.row.shape
      have b2 := hat.box.c2
      by_cases hlt : k < s.size
      · have i1 : (k : Int) < (s.size : Int) := by omega
        have d0 := hat.c0
        have d1 := hat.c1
        have d2 := hat.f0
        have d3 := hat.f1
        have hcell := (cellB_iff _ _).1 (okW_cell HA1.out hok)
        have h24 := ok_24 HA1.out hok
        have HBT := Lib.hid (bt_at s hlt)
        by_cases hE : bt s k = 69
        · have ex : cX s x (k + 1) = cX s x k + 1 := by
            show cX s x k + (if bt s k = 69 then 1 else 0) = _
            rw [if_pos hE]
          have ey : cY s y (k + 1) = cY s y k := by
            show cY s y k + (if bt s k = 78 then 1 else 0) = _
            rw [if_neg (by omega)]
            omega
          have q1 : ((s[k]).toNat : Int) = 69 := by rw [← HBT.out]; exact hE
          have HOK : Hid (okW s x y (k + 1) = cellB (cX s x k + 1) (cY s y k)) := Lib.hid (by
            rw [← ex, ← ey]
            show (okW s x y k && ((bt s k == 69 || bt s k == 78) && cellB (cX s x (k + 1)) (cY s y (k + 1)))) = _
            rw [hok, hE]
            rfl)
          have HSN := Lib.hid (clF_snoc s x y k)
          rw [ex, ey] at HSN
          have HX' := Lib.hid ex
          have HY' := Lib.hid ey
          have HAT := Lib.hid hat
          have HM : Hid (∀ w, Calls Try.prog 123 #[.int .u8 ((s[k]).toNat : Int)] w fun e w' => e = .returned (.tuple #[.func (.func 148) #[] #[], .bool true]) ∧ w = w') := Lib.hid fun w => by rw [q1]; exact moveOf_E w
          have HMV : Hid (∀ w, Calls Try.prog 148 #[celV (cX s x k) (cY s y k)] w (Ret w (celV (cX s x k + 1) (cY s y k)))) := Lib.hid fun w => east_ret _ _ w (by omega)
          clear hat hE ex ey HBT q1
          generalize cX s x k = px at *
          generalize cY s y k = py at *

          rcases Bool.eq_false_or_eq_true (cellB (px + 1) py) with a2 | a2
          · have HCC : Hid (∀ w, Calls Try.prog 122 #[celV (px + 1) py] w (Ret w (.bool true))) := Lib.hid fun w => by rw [← a2]; exact isCellI_ret _ _ w
            rw [a2] at HOK
            clear a2
            go_wp2_with fail
            refine (HM.out _).mono ?_
            rintro e w1 ⟨rfl, rfl⟩
            go_wp2_with fail
            refine (HMV.out _).mono ?_
            rintro e w2 ⟨rfl, hb⟩
            have hx := HAT.out.kept0 hb; clear HAT d0 d1 d2 d3 b2; have d0 := hx.c0; have d1 := hx.c1; have d2 := hx.f0; have d3 := hx.f1; have b2 := hx.box.c2; have HAT := Lib.hid hx; clear hx hb
            go_wp2_with fail
            refine (HPC.out _ _ _).mono ?_
            rintro e w3 ⟨rfl, hb⟩
            have hx := HAT.out.kept0 hb; clear HAT d0 d1 d2 d3 b2; have d0 := hx.c0; have d1 := hx.c1; have d2 := hx.f0; have d3 := hx.f1; have b2 := hx.box.c2; have HAT := Lib.hid hx; clear hx hb
            go_wp2_with fail
            refine (HCC.out _).mono ?_
            rintro e w4 ⟨rfl, hb⟩
            have hx := HAT.out.kept0 hb; clear HAT d0 d1 d2 d3 b2; have d0 := hx.c0; have d1 := hx.c1; have d2 := hx.f0; have d3 := hx.f1; have b2 := hx.box.c2; have HAT := Lib.hid hx; clear hx hb
            go_wp2_with fail
            refine (HMV.out _).mono ?_
            rintro e w5 ⟨rfl, hb⟩
            have hx := HAT.out.kept0 hb; clear HAT d0 d1 d2 d3 b2; have d0 := hx.c0; have d1 := hx.c1; have d2 := hx.f0; have d3 := hx.f1; have b2 := hx.box.c2; have HAT := Lib.hid hx; clear hx hb
            go_upto_region 12 with fail
            refine wp_nameN (fun X2 => PcAt w wb x y s wb.heap.size (.slice A1 (k + 1) cc) (k + 1) (clF s x y k) (px + 1) py X2) ((HAT.out.put0 (px + 1)).put1 py) ?_
            intro X2 hat2
            clear HAT d0 d1 d2 d3 b2
            have d0 := hat2.c0
            have d1 := hat2.c1
            have HAT := Lib.hid hat2
            clear hat2
            go_wp2_with (refine wpList_pushP (px + 1) py (.tmp 45) (.tmp 47) rfl rfl wb.heap.size _ (k + 1) _ rfl HAT.out.row X2.heap.size rfl rfl (by omega) (Nat.le_trans HAT.out.lo (Nat.le_of_lt HAT.out.lt)) ?_; intro v' w' hr' hg' hat')
            rw [HSN.out] at hr'
            have HAT4 := Lib.hid (HAT.out.push hr' hg' hat')
            obtain ⟨A2, c5, rfl⟩ := hr'.shape
            clear hr' hg' hat'
            go_wp2_with fail
            go_roundw
            case rel => exact ⟨k + 1, by omega, by go_num, HOK.out, by rw [HX'.out, HY'.out]; exact HAT4.out⟩
            case measure => first | (simp [intOf]; done) | (simp [intOf]; omega)
          · have HCC : Hid (∀ w, Calls Try.prog 122 #[celV (px + 1) py] w (Ret w (.bool false))) := Lib.hid fun w => by rw [← a2]; exact isCellI_ret _ _ w
            rw [a2] at HOK
            have HNO := Lib.hid (HW.out (k + 1) HOK.out (by omega))
            have E1 : Hid (ncN x y s = 0) := Lib.hid (by simp [ncN, HNO.out]); have E2 : Hid (ncX x y s = []) := Lib.hid (by simp [ncX, HNO.out])
            clear a2
            go_wp2_with fail
            refine (HM.out _).mono ?_
            rintro e w1 ⟨rfl, rfl⟩
            go_wp2_with fail
            refine (HMV.out _).mono ?_
            rintro e w2 ⟨rfl, hb⟩
            have hx := HAT.out.kept0 hb; clear HAT d0 d1 d2 d3 b2; have d0 := hx.c0; have d1 := hx.c1; have d2 := hx.f0; have d3 := hx.f1; have b2 := hx.box.c2; have HAT := Lib.hid hx; clear hx hb
            go_wp2_with fail
            refine (HPC.out _ _ _).mono ?_
            rintro e w3 ⟨rfl, hb⟩
            have hx := HAT.out.kept0 hb; clear HAT d0 d1 d2 d3 b2; have d0 := hx.c0; have d1 := hx.c1; have d2 := hx.f0; have d3 := hx.f1; have b2 := hx.box.c2; have HAT := Lib.hid hx; clear hx hb
            go_wp2_with fail
            refine (HCC.out _).mono ?_
            rintro e w4 ⟨rfl, hb⟩
            have hx := HAT.out.kept0 hb; clear HAT d0 d1 d2 d3 b2; have d0 := hx.c0; have d1 := hx.c1; have d2 := hx.f0; have d3 := hx.f1; have b2 := hx.box.c2; have HAT := Lib.hid hx; clear hx hb
            go_wp2_with fail
            go_ret2
            exact ⟨.slice none 0 0, by rw [HNO.out]; rfl, by rw [E1.out, E2.out]; exact ⟨World.ownsRow_nil _ _ _ _, rfl⟩, HAT.out.box.below⟩
        · by_cases hN : bt s k = 78
          · have ex : cX s x (k + 1) = cX s x k := by
              show cX s x k + (if bt s k = 69 then 1 else 0) = _
              rw [if_neg (by omega)]
              omega
            have ey : cY s y (k + 1) = cY s y k + 1 := by
              show cY s y k + (if bt s k = 78 then 1 else 0) = _
              rw [if_pos hN]
            have q1 : ((s[k]).toNat : Int) = 78 := by rw [← HBT.out]; exact hN
            have HOK : Hid (okW s x y (k + 1) = cellB (cX s x k) (cY s y k + 1)) := Lib.hid (by
              rw [← ex, ← ey]
              show (okW s x y k && ((bt s k == 69 || bt s k == 78) && cellB (cX s x (k + 1)) (cY s y (k + 1)))) = _
              rw [hok, hN]
              rfl)
            have HSN := Lib.hid (clF_snoc s x y k)
            rw [ex, ey] at HSN
            have HX' := Lib.hid ex
            have HY' := Lib.hid ey
            have HAT := Lib.hid hat
            have HM : Hid (∀ w, Calls Try.prog 123 #[.int .u8 ((s[k]).toNat : Int)] w fun e w' => e = .returned (.tuple #[.func (.func 149) #[] #[], .bool true]) ∧ w = w') := Lib.hid fun w => by rw [q1]; exact moveOf_N w
            have HMV : Hid (∀ w, Calls Try.prog 149 #[celV (cX s x k) (cY s y k)] w (Ret w (celV (cX s x k) (cY s y k + 1)))) := Lib.hid fun w => north_ret _ _ w (by omega)
            clear hat hE hN ex ey HBT q1
            generalize cX s x k = px at *
            generalize cY s y k = py at *

            rcases Bool.eq_false_or_eq_true (cellB px (py + 1)) with a2 | a2
            · have HCC : Hid (∀ w, Calls Try.prog 122 #[celV px (py + 1)] w (Ret w (.bool true))) := Lib.hid fun w => by rw [← a2]; exact isCellI_ret _ _ w
              rw [a2] at HOK
              clear a2
              go_wp2_with fail
              refine (HM.out _).mono ?_
              rintro e w1 ⟨rfl, rfl⟩
              go_wp2_with fail
              refine (HMV.out _).mono ?_
              rintro e w2 ⟨rfl, hb⟩
              have hx := HAT.out.kept0 hb; clear HAT d0 d1 d2 d3 b2; have d0 := hx.c0; have d1 := hx.c1; have d2 := hx.f0; have d3 := hx.f1; have b2 := hx.box.c2; have HAT := Lib.hid hx; clear hx hb
              go_wp2_with fail
              refine (HPC.out _ _ _).mono ?_
              rintro e w3 ⟨rfl, hb⟩
              have hx := HAT.out.kept0 hb; clear HAT d0 d1 d2 d3 b2; have d0 := hx.c0; have d1 := hx.c1; have d2 := hx.f0; have d3 := hx.f1; have b2 := hx.box.c2; have HAT := Lib.hid hx; clear hx hb
              go_wp2_with fail
              refine (HCC.out _).mono ?_
              rintro e w4 ⟨rfl, hb⟩
              have hx := HAT.out.kept0 hb; clear HAT d0 d1 d2 d3 b2; have d0 := hx.c0; have d1 := hx.c1; have d2 := hx.f0; have d3 := hx.f1; have b2 := hx.box.c2; have HAT := Lib.hid hx; clear hx hb
              go_wp2_with fail
              refine (HMV.out _).mono ?_
              rintro e w5 ⟨rfl, hb⟩
              have hx := HAT.out.kept0 hb; clear HAT d0 d1 d2 d3 b2; have d0 := hx.c0; have d1 := hx.c1; have d2 := hx.f0; have d3 := hx.f1; have b2 := hx.box.c2; have HAT := Lib.hid hx; clear hx hb
              go_upto_region 12 with fail
              refine wp_nameN (fun X2 => PcAt w wb x y s wb.heap.size (.slice A1 (k + 1) cc) (k + 1) (clF s x y k) px (py + 1) X2) ((HAT.out.put0 px).put1 (py + 1)) ?_
              intro X2 hat2
              clear HAT d0 d1 d2 d3 b2
              have d0 := hat2.c0
              have d1 := hat2.c1
              have HAT := Lib.hid hat2
              clear hat2
              go_wp2_with (refine wpList_pushP px (py + 1) (.tmp 45) (.tmp 47) rfl rfl wb.heap.size _ (k + 1) _ rfl HAT.out.row X2.heap.size rfl rfl (by omega) (Nat.le_trans HAT.out.lo (Nat.le_of_lt HAT.out.lt)) ?_; intro v' w' hr' hg' hat')
              rw [HSN.out] at hr'
              have HAT4 := Lib.hid (HAT.out.push hr' hg' hat')
              obtain ⟨A2, c5, rfl⟩ := hr'.shape
              clear hr' hg' hat'
              go_wp2_with fail
              go_roundw
              case rel => exact ⟨k + 1, by omega, by go_num, HOK.out, by rw [HX'.out, HY'.out]; exact HAT4.out⟩
              case measure => first | (simp [intOf]; done) | (simp [intOf]; omega)
            · have HCC : Hid (∀ w, Calls Try.prog 122 #[celV px (py + 1)] w (Ret w (.bool false))) := Lib.hid fun w => by rw [← a2]; exact isCellI_ret _ _ w
              rw [a2] at HOK
              have HNO := Lib.hid (HW.out (k + 1) HOK.out (by omega))
              have E1 : Hid (ncN x y s = 0) := Lib.hid (by simp [ncN, HNO.out]); have E2 : Hid (ncX x y s = []) := Lib.hid (by simp [ncX, HNO.out])
              clear a2
              go_wp2_with fail
              refine (HM.out _).mono ?_
              rintro e w1 ⟨rfl, rfl⟩
              go_wp2_with fail
              refine (HMV.out _).mono ?_
              rintro e w2 ⟨rfl, hb⟩
              have hx := HAT.out.kept0 hb; clear HAT d0 d1 d2 d3 b2; have d0 := hx.c0; have d1 := hx.c1; have d2 := hx.f0; have d3 := hx.f1; have b2 := hx.box.c2; have HAT := Lib.hid hx; clear hx hb
              go_wp2_with fail
              refine (HPC.out _ _ _).mono ?_
              rintro e w3 ⟨rfl, hb⟩
              have hx := HAT.out.kept0 hb; clear HAT d0 d1 d2 d3 b2; have d0 := hx.c0; have d1 := hx.c1; have d2 := hx.f0; have d3 := hx.f1; have b2 := hx.box.c2; have HAT := Lib.hid hx; clear hx hb
              go_wp2_with fail
              refine (HCC.out _).mono ?_
              rintro e w4 ⟨rfl, hb⟩
              have hx := HAT.out.kept0 hb; clear HAT d0 d1 d2 d3 b2; have d0 := hx.c0; have d1 := hx.c1; have d2 := hx.f0; have d3 := hx.f1; have b2 := hx.box.c2; have HAT := Lib.hid hx; clear hx hb
              go_wp2_with fail
              go_ret2
              exact ⟨.slice none 0 0, by rw [HNO.out]; rfl, by rw [E1.out, E2.out]; exact ⟨World.ownsRow_nil _ _ _ _, rfl⟩, HAT.out.box.below⟩
          · have q1 : (((s[k]).toNat : Int) == 69) = false := by rw [← HBT.out]; exact beq_eq_false_iff_ne.2 hE
            have q2 : (((s[k]).toNat : Int) == 78) = false := by rw [← HBT.out]; exact beq_eq_false_iff_ne.2 hN
            have HNO : Hid (wayB x y s = false) := Lib.hid (HW.out (k + 1) (by
              show (okW s x y k && ((bt s k == 69 || bt s k == 78) && cellB (cX s x (k + 1)) (cY s y (k + 1)))) = _
              rw [beq_eq_false_iff_ne.2 hE, beq_eq_false_iff_ne.2 hN]
              cases okW s x y k <;> rfl) (by omega))
            have E1 : Hid (ncN x y s = 0) := Lib.hid (by simp [ncN, HNO.out]); have E2 : Hid (ncX x y s = []) := Lib.hid (by simp [ncX, HNO.out])
            have HM : Hid (∀ w, Calls Try.prog 123 #[.int .u8 ((s[k]).toNat : Int)] w fun e w' => (∃ v, e = .returned (.tuple #[v, .bool false])) ∧ w = w') := Lib.hid fun w => moveOf_no _ w q1 q2
            have HAT := Lib.hid hat
            clear hat hE hN q1 q2 HBT

            go_wp2_with fail
            refine (HM.out _).mono ?_
            rintro e w1 ⟨⟨vv, rfl⟩, rfl⟩
            go_wp2_with fail
            go_ret2
            exact ⟨.slice none 0 0, by rw [HNO.out]; rfl, by rw [E1.out, E2.out]; exact ⟨World.ownsRow_nil _ _ _ _, rfl⟩, HAT.out.box.below⟩
      · obtain rfl : k = s.size := by omega
        have hyes := HY.out hok
        have e1 : ncN x y s = s.size + 1 := by unfold ncN; rw [if_pos hyes]
        have e2 : ncX x y s = clF s x y s.size := by unfold ncX; rw [if_pos hyes]
        have HYE := Lib.hid hyes
        have E1 := Lib.hid e1
        have E2 := Lib.hid e2
        have HAT := Lib.hid hat
        clear e1 e2 hyes hat
        go_wp2_with fail
        go_ret2
        exact ⟨.slice A1 (s.size + 1) cc, by rw [HYE.out]; rfl, by rw [E1.out, E2.out]; exact HAT.out.row.mono HWB.out.1.size, HAT.out.box.below⟩
  · have HNO : Hid (wayB x y s = false) := Lib.hid (by unfold wayB; rw [a1, Bool.false_and, Bool.false_and])
    have HC0 : Hid (∀ w, Calls Try.prog 122 #[celV x y] w (Ret w (.bool false))) := Lib.hid fun w => by rw [← a1]; exact isCellI_ret x y w
    have E1 : Hid (ncN x y s = 0) := Lib.hid (by simp [ncN, HNO.out]); have E2 : Hid (ncX x y s = []) := Lib.hid (by simp [ncX, HNO.out])
    clear a1
    go_enter Try.func76, Try.ntmps76
    go_wp2_with fail
    refine (HC0.out _).mono ?_
    rintro e wa ⟨rfl, hba⟩
    have HX2 := Lib.hid (HX.out.kept hba)
    clear hba
    go_wp2_with fail
    go_ret2
    exact ⟨.slice none 0 0, by rw [HNO.out]; rfl, by rw [E1.out, E2.out]; exact ⟨World.ownsRow_nil _ _ _ _, rfl⟩, HX2.out.below⟩
end Go.Proofs.Ytnlmjeakdjmohaa
