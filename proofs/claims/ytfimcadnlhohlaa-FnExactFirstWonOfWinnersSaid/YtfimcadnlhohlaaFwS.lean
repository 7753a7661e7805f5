/- The model's FirstWonOfWinners. -/
import Derived.Test.YtfimcadnlhohlaaRaS
import Derived.Test.YtfimcadnlhohlaaRqLaw
import Derived.Test.YtfimcadnlhohlaaFwMath
import Derived.Test.YtfimcadnlhohlaaFwR
import Derived.Deep.CutBlock
import Derived.Deep.DeepCutAuto
namespace Go.Proofs.Ytfimcadnlhohlaa
open Go.RowKit
set_option linter.unusedVariables false
theorem bcellN {W w1 : World} {B : Nat} (hb : Below B W w1) : (∀ b o, b < B → w1.cell? ⟨b, o, none⟩ = W.cell? ⟨b, o, none⟩) ∧ (∀ b o, b < B → w1.frozen? ⟨b, o, none⟩ = W.frozen? ⟨b, o, none⟩) :=
  ⟨fun b o h => hb.cell (p := ⟨b, o, none⟩) h, fun b o h => hb.frozen (p := ⟨b, o, none⟩) h⟩
theorem raKeep2 {w W W' : World} {n d : Int} (hb : Below W.heap.size W W') (h : W.cell? ⟨w.heap.size, 0, none⟩ = some (.int .i64 n) ∧ W.cell? ⟨w.heap.size, 1, none⟩ = some (.int .i64 d) ∧ RA w n d W) : W'.cell? ⟨w.heap.size, 0, none⟩ = some (.int .i64 n) ∧ W'.cell? ⟨w.heap.size, 1, none⟩ = some (.int .i64 d) ∧ RA w n d W' := raKeep h hb
set_option maxRecDepth 100000 in
set_option maxHeartbeats 4000000 in
theorem specFirst_ret (i g n d : Int) (w : World) : Calls Try.prog 43 #[.int .i64 i, .int .i64 g, .agg #[.int .i64 n, .int .i64 d]] w (Ret w (ratRet (fwP i g n d) (fwQ i g n d) (fwOk i g n d))) := by
  have HA : Hid (∀ w, Calls Try.prog 56 #[.int .i64 i, .int .i64 g, .agg #[.int .i64 n, .int .i64 d]] w (Ret w (.bool (askB i g n d)))) := Lib.hid fun w => ruAsked_any i g n d w
  have HI : Hid (∀ w, Calls Try.prog 64 #[.int .i64 i, .int .i64 1, .int .i64 (g - 1)] w fun e w' => e = .returned (.bool (inBd 1 (g - 1) i)) ∧ w = w') := Lib.hid fun w => in_any i 1 (g - 1) w
  have HX := Lib.hid (RZ.start w n d)
  rcases Bool.eq_false_or_eq_true (askB i g n d) with ha | ha
  · obtain ⟨bg, bi, bd, bn⟩ := askB_of ha
    rcases Bool.eq_false_or_eq_true (inBd 1 (g - 1) i) with hb | hb
    · have hi1 : 1 ≤ i ∧ i ≤ g - 1 := by unfold inBd at hb; simpa only [Bool.and_eq_true, decide_eq_true_eq] using hb
      have ha2 : askB (i + 1) g n d = true := by
        unfold askB at ha ⊢
        rw [Bool.and_eq_true, Bool.and_eq_true] at ha
        rw [ha.1.1, ha.2, show inBd 0 g (i + 1) = true by unfold inBd; simp only [Bool.and_eq_true, decide_eq_true_eq]; omega]
        rfl
      have hok : fwOk i g n d = true := by unfold fwOk; rw [ha, hb]; rfl
      have W1 : Hid (∀ w, Calls Try.prog 57 #[.int .i64 (i + 1), .int .i64 g, .agg #[.int .i64 n, .int .i64 d]] w (Ret w (.agg #[.int .i64 (winP (i + 1) g n d), .int .i64 (winQ (i + 1) g n d)]))) := Lib.hid fun w => ruWin_any (i + 1) g n d w ha2
      have W2 : Hid (∀ w, Calls Try.prog 57 #[.int .i64 i, .int .i64 g, .agg #[.int .i64 n, .int .i64 d]] w (Ret w (.agg #[.int .i64 (winP i g n d), .int .i64 (winQ i g n d)]))) := Lib.hid fun w => ruWin_any i g n d w ha
      obtain ⟨ap, aq, _⟩ := win_bd ha2
      obtain ⟨cp, cq, cpos⟩ := win_bd ha
      have cpos := cpos hi1.1
      have ap1 := (win_bd ha2).2.2 (by omega)
      unfold fwP fwQ fxA fxB
      simp only [if_pos hok]
      rw [hok]
      rw [ha] at HA
      rw [hb] at HI
      generalize winP (i + 1) g n d = pa at *
      generalize winQ (i + 1) g n d = qa at *
      generalize winP i g n d = pb at *
      generalize winQ i g n d = qb at *
      have m1 := mul_le_of' (x := n) (y := pa) (A := 6) (B := 244140625) (by omega) (by omega)
      have m2 := mul_le_of' (x := d) (y := qa) (A := 6) (B := 244140625) (by omega) (by omega)
      have m2p := Int.mul_pos (show 0 < d by omega) (show 0 < qa by omega)
      have m1p := Int.mul_pos (show 0 < n by omega) (show 0 < pa by omega)
      have HR1 : Hid (∀ w, Calls Try.prog 62 #[.int .i64 (n * pa), .int .i64 (d * qa)] w (Ret w (.agg #[.int .i64 (numZ (n * pa) (d * qa)), .int .i64 (denZ (n * pa) (d * qa))]))) := Lib.hid fun w => ruRatioZ_any _ _ w (by omega) (by omega)
      have f1 := numZ_pos m1p m2p
      have f2 := denZ_bd (n := n * pa) m2p
      generalize numZ (n * pa) (d * qa) = u at *
      generalize denZ (n * pa) (d * qa) = v at *
      have m3 := mul_le_of' (x := u) (y := qb) (A := 6 * 244140625) (B := 244140625) (by omega) (by omega)
      have m4 := mul_le_of' (x := v) (y := pb) (A := 6 * 244140625) (B := 244140625) (by omega) (by omega)
      have m4p := Int.mul_pos (show 0 < v by omega) (show 0 < pb by omega)
      have HR2 : Hid (∀ w, Calls Try.prog 62 #[.int .i64 (u * qb), .int .i64 (v * pb)] w (Ret w (.agg #[.int .i64 (numZ (u * qb) (v * pb)), .int .i64 (denZ (u * qb) (v * pb))]))) := Lib.hid fun w => ruRatioZ_any _ _ w (by omega) (by omega)
      generalize numZ (u * qb) (v * pb) = x at *
      generalize denZ (u * qb) (v * pb) = y at *
      have k1 := IntWalk.i64_in (i + 1) (by omega)
      clear hok ha hb ha2
      go_enter Try.func43, Try.ntmps43
      go_upto_region 3 with (first | (go_at_call 56; refine (HA.out _).mono ?_; rintro e wa ⟨rfl, hba⟩; have hx := HX.out.kept hba; have r0 := hx.r.1; have r1 := hx.r.2.1; have y0 := hx.z.c0; have y1 := hx.z.c1; have y2 := hx.z.f0; have y3 := hx.z.f1; have lt1 := hx.z.lt; have HX2 := Lib.hid hx; clear hx hba) | (go_at_call 64; refine (HI.out _).mono ?_; rintro e w' ⟨rfl, rfl⟩))
      go_cut [8, 9] from 24 (fun s8 s9 wx => ∃ b8 b9 : Nat, s8 = .pointer (some ⟨b8, 0, none⟩) ∧ s9 = .pointer (some ⟨b9, 0, none⟩) ∧ QB b8 pa qa wx ∧ QB b9 pb qb wx ∧ RA w n d wx)
      case first =>
        have HRA : Hid (RA w n d wa) := Lib.hid (RA.of HX2.out)
        clear r0 r1 y0 y1 y2 y3 lt1
        refine wp_region_inv2 (fun a0 L a W => ∃ u : Nat → Value, a = (((((((((((a0.put (some 24) (u 0)).put (some 25) (u 1)).put (some 26) (u 2)).put (some 27) (u 3)).put (some 28) (u 4)).put (some 29) (u 5)).put (some 30) (u 6)).put (some 31) (u 7)).put (some 32) (u 8)).put (some 8) (u 9)).put (some 9) (u 10)) ∧ R13 w i g n d pa qa pb qb L W u) (by kernel_rfl) (by kernel_rfl) ?_ ?_ ?_
        · refine ⟨fun _ => undef, ?_, ⟨HRA.out.kept (Below.refl _ _).drew, (fun j _ e => by cases e), (fun e => by cases e), (fun e => by cases e), (fun e => by cases e), (fun e => by cases e), (fun e => by cases e)⟩⟩
          simp only [Act.put, List.setIfInBounds_toArray, List.set_cons_succ, List.set_cons_zero]
        · rintro j op hop L a' W ⟨u, rfl, hF⟩ hL hdep
          match j, hop with
          | 0, hop =>
            simp at hop; subst hop
            refine wpOp_run rfl rfl ?_
            simp only [Act.put, List.setIfInBounds_toArray, List.set_cons_succ, List.set_cons_zero]
            go_simp
            refine ⟨_, ?_, hF.setv 0 (by omega) (fwE i g n d pa qa pb qb 0) rfl⟩
            simp [upw, fwE]
          | 1, hop =>
            simp at hop; subst hop
            refine wpOp_run rfl rfl ?_
            simp only [Act.put, List.setIfInBounds_toArray, List.set_cons_succ, List.set_cons_zero]
            have e0 : u 0 = .int .i64 i := hF.val 0 (by omega) (hdep ⟨0, .data⟩ (by simp) rfl)
            simp only [e0]
            go_simp
            refine ⟨_, ?_, hF.setv 1 (by omega) (fwE i g n d pa qa pb qb 1) rfl⟩
            simp only [← e0]
            simp [upw, fwE]
          | 2, hop =>
            simp at hop; subst hop
            refine wpOp_run rfl rfl ?_
            simp only [Act.put, List.setIfInBounds_toArray, List.set_cons_succ, List.set_cons_zero]
            go_simp
            refine ⟨_, ?_, hF.setv 2 (by omega) (fwE i g n d pa qa pb qb 2) rfl⟩
            simp [upw, fwE]
          | 3, hop =>
            simp at hop; subst hop
            refine wpOp_run rfl rfl ?_
            simp only [Act.put, List.setIfInBounds_toArray, List.set_cons_succ, List.set_cons_zero]
            have c0 := hF.ra.r.1
            have c1 := hF.ra.r.2.1
            go_simp
            refine ⟨_, ?_, hF.setv 3 (by omega) (fwE i g n d pa qa pb qb 3) rfl⟩
            simp [upw, fwE]
          | 4, hop =>
            simp at hop; subst hop
            refine wpOp_run rfl rfl ?_
            simp only [Act.put, List.setIfInBounds_toArray, List.set_cons_succ, List.set_cons_zero]
            have e1 : u 1 = .int .i64 (i + 1) := hF.val 1 (by omega) (hdep ⟨1, .data⟩ (by simp) rfl)
            have e2 : u 2 = .int .i64 g := hF.val 2 (by omega) (hdep ⟨2, .data⟩ (by simp) rfl)
            have e3 : u 3 = .agg #[.int .i64 n, .int .i64 d] := hF.val 3 (by omega) (hdep ⟨3, .data⟩ (by simp) rfl)
            simp only [e1, e2, e3]
            go_simp
            go_at_call 57
            refine (W1.out _).mono ?_
            rintro e w3 ⟨rfl, hb3⟩
            refine ⟨_, ?_, (hF.kept13 hb3).setv 4 (by omega) (fwE i g n d pa qa pb qb 4) rfl⟩
            simp only [← e1, ← e2, ← e3]
            simp [upw, fwE]
          | 5, hop =>
            simp at hop; subst hop
            refine wpOp_run rfl rfl ?_
            simp only [Act.put, List.setIfInBounds_toArray, List.set_cons_succ, List.set_cons_zero]
            go_simp
            refine ⟨_, ?_, hF.setv 5 (by omega) (fwE i g n d pa qa pb qb 5) rfl⟩
            simp [upw, fwE]
          | 6, hop =>
            simp at hop; subst hop
            refine wpOp_run rfl rfl ?_
            simp only [Act.put, List.setIfInBounds_toArray, List.set_cons_succ, List.set_cons_zero]
            go_simp
            refine ⟨_, ?_, hF.setv 6 (by omega) (fwE i g n d pa qa pb qb 6) rfl⟩
            simp [upw, fwE]
          | 7, hop =>
            simp at hop; subst hop
            refine wpOp_run rfl rfl ?_
            simp only [Act.put, List.setIfInBounds_toArray, List.set_cons_succ, List.set_cons_zero]
            have c0 := hF.ra.r.1
            have c1 := hF.ra.r.2.1
            go_simp
            refine ⟨_, ?_, hF.setv 7 (by omega) (fwE i g n d pa qa pb qb 7) rfl⟩
            simp [upw, fwE]
          | 8, hop =>
            simp at hop; subst hop
            refine wpOp_run rfl rfl ?_
            simp only [Act.put, List.setIfInBounds_toArray, List.set_cons_succ, List.set_cons_zero]
            have e1 : u 5 = .int .i64 i := hF.val 5 (by omega) (hdep ⟨5, .data⟩ (by simp) rfl)
            have e2 : u 6 = .int .i64 g := hF.val 6 (by omega) (hdep ⟨6, .data⟩ (by simp) rfl)
            have e3 : u 7 = .agg #[.int .i64 n, .int .i64 d] := hF.val 7 (by omega) (hdep ⟨7, .data⟩ (by simp) rfl)
            simp only [e1, e2, e3]
            go_simp
            go_at_call 57
            refine (W2.out _).mono ?_
            rintro e w3 ⟨rfl, hb3⟩
            refine ⟨_, ?_, (hF.kept13 hb3).setv 8 (by omega) (fwE i g n d pa qa pb qb 8) rfl⟩
            simp only [← e1, ← e2, ← e3]
            simp [upw, fwE]
          | 9, hop =>
            simp at hop; subst hop
            refine wpOp_run rfl rfl ?_
            simp only [Act.put, List.setIfInBounds_toArray, List.set_cons_succ, List.set_cons_zero]
            go_simp
            refine ⟨_, ?_, hF.box9 hL⟩
            simp [upw]
          | 10, hop =>
            simp at hop; subst hop
            refine wpOp_run rfl rfl ?_
            simp only [Act.put, List.setIfInBounds_toArray, List.set_cons_succ, List.set_cons_zero]
            go_simp
            refine ⟨_, ?_, hF.box10 hL⟩
            simp [upw]
          | 11, hop =>
            simp at hop; subst hop
            refine wpOp_run rfl rfl ?_
            simp only [Act.put, List.setIfInBounds_toArray, List.set_cons_succ, List.set_cons_zero]
            have dp := hdep ⟨9, .data⟩ (by simp) rfl
            have dv := hdep ⟨4, .data⟩ (by simp) rfl
            have ev : u 4 = .agg #[.int .i64 pa, .int .i64 qa] := hF.val 4 (by omega) dv
            obtain ⟨b, ep, k2, k3, k4⟩ := hF.p9 dp
            rw [hL] at k4
            obtain ⟨b0, b1, b2, b3⟩ := R13.empty_cells k4
            have HST := hF.store11 ep dp dv hL
            simp only [ep, ev]
            clear hF k4
            go_simp
            refine ⟨_, ?_, HST⟩
            simp only [← ep, ← ev]
            simp
          | 12, hop =>
            simp at hop; subst hop
            refine wpOp_run rfl rfl ?_
            simp only [Act.put, List.setIfInBounds_toArray, List.set_cons_succ, List.set_cons_zero]
            have dp := hdep ⟨10, .data⟩ (by simp) rfl
            have dv := hdep ⟨8, .data⟩ (by simp) rfl
            have ev : u 8 = .agg #[.int .i64 pb, .int .i64 qb] := hF.val 8 (by omega) dv
            obtain ⟨b, ep, k2, k3, k4⟩ := hF.p10 dp
            rw [hL] at k4
            obtain ⟨b0, b1, b2, b3⟩ := R13.empty_cells k4
            have HST := hF.store12 ep dp dv hL
            simp only [ep, ev]
            clear hF k4
            go_simp
            refine ⟨_, ?_, HST⟩
            simp only [← ep, ← ev]
            simp
          | j + 13, hop => simp at hop
        · rintro L a' W hall ⟨u, rfl, hF⟩
          have l9 := hall 9 (by simp)
          have l10 := hall 10 (by simp)
          have l11 := hall 11 (by simp)
          have l12 := hall 12 (by simp)
          obtain ⟨b8, e8, _, _, q8⟩ := hF.p9 l9
          obtain ⟨b9, e9, _, _, q9⟩ := hF.p10 l10
          rw [l11] at q8
          rw [l12] at q9
          have hq8 := R13.full_box q8
          have hq9 := R13.full_box q9
          have hra := hF.ra
          clear hF hall q8 q9
          simp only [Act.put, List.setIfInBounds_toArray, List.set_cons_succ, List.set_cons_zero]
          simp only [e8, e9]
          clear e8 e9
          generalize u 0 = x0 at *
          generalize u 1 = x1 at *
          generalize u 2 = x2 at *
          generalize u 3 = x3 at *
          generalize u 4 = x4 at *
          generalize u 5 = x5 at *
          generalize u 6 = x6 at *
          generalize u 7 = x7 at *
          generalize u 8 = x8 at *
          go_wp2_with fail
          go_meet
          exact ⟨b8, b9, rfl, rfl, hq8, hq9, hra⟩
      case rest =>
        obtain ⟨b8, b9, rfl, rfl, h8, h9, hra⟩ := hcut
        have c0 := h8.c0
        have c1 := h8.c1
        have d0 := h9.c0
        have d1 := h9.c1
        have r0 := hra.r.1
        have r1 := hra.r.2.1
        have HRA := Lib.hid hra
        have H9 := Lib.hid h9
        have lt9 := h9.lt
        clear hra h8 h9
        go_wp2_with fail
        refine (HR1.out _).mono ?_
        rintro e w3 ⟨rfl, hb3⟩
        have hra := HRA.out.kept hb3
        have h9 := H9.out.below hb3
        clear c0 c1 d0 d1 r0 r1 hb3
        have d0 := h9.c0
        have d1 := h9.c1
        have lt3 := h9.lt
        have HRA3 := Lib.hid hra
        clear hra h9
        go_wp2_with fail
        refine (HR2.out _).mono ?_
        rintro e wz ⟨rfl, hbz⟩
        have hra := (HRA3.out.kept ((Below.refl _ _).alloc (Nat.le_refl _) _)).kept hbz
        obtain ⟨u0, s0⟩ := hra.c0
        obtain ⟨u1, s1⟩ := hra.c1
        have s2 := hra.f0
        have s3 := hra.f1
        have HRA4 := Lib.hid hra
        clear hra hbz d0 d1
        go_wp2_with fail
        obtain ⟨z0, z1, hzb⟩ := HRA4.out.done x y
        refine bodyPost_ret (v := ratRet x y true) ?_ rfl ⟨rfl, hzb.r.2.2.2⟩
        clear hzb
        generalize (wz.setCell ⟨w.heap.size + 1, 0, none⟩ (.int .i64 x)).setCell ⟨w.heap.size + 1, 1, none⟩ (.int .i64 y) = WF at *
        simp [results, Try.f43, go_sem, z0, z1]
    · have hok : fwOk i g n d = false := by unfold fwOk; rw [ha, hb]; rfl
      have e1 : fwP i g n d = 0 := by unfold fwP; rw [hok]; rfl
      have e2 : fwQ i g n d = 0 := by unfold fwQ; rw [hok]; rfl
      rw [e1, e2, hok]
      rw [ha] at HA
      rw [hb] at HI
      clear hok e1 e2 ha hb
      go_enter Try.func43, Try.ntmps43
      go_wp2_with (first | (go_at_call 56; refine (HA.out _).mono ?_; rintro e wa ⟨rfl, hba⟩; have hx := HX.out.kept hba; have r0 := hx.r.1; have r1 := hx.r.2.1; have y0 := hx.z.c0; have y1 := hx.z.c1; have y2 := hx.z.f0; have y3 := hx.z.f1; have lt1 := hx.z.lt; have HX2 := Lib.hid hx; clear hx hba) | (go_at_call 64; refine (HI.out _).mono ?_; rintro e w' ⟨rfl, rfl⟩))
      obtain ⟨z0, z1, hzb⟩ := HX2.out.z.done 0 0
      refine bodyPost_ret (v := ratRet 0 0 false) ?_ rfl ⟨rfl, hzb⟩
      clear hzb
      generalize (wa.setCell ⟨w.heap.size + 1, 0, none⟩ (.int .i64 0)).setCell ⟨w.heap.size + 1, 1, none⟩ (.int .i64 0) = WF at *
      simp [results, Try.f43, go_sem, z0, z1]
  · have hok : fwOk i g n d = false := by unfold fwOk; rw [ha]; rfl
    have e1 : fwP i g n d = 0 := by unfold fwP; rw [hok]; rfl
    have e2 : fwQ i g n d = 0 := by unfold fwQ; rw [hok]; rfl
    rw [e1, e2, hok]
    rw [ha] at HA
    clear hok e1 e2 ha
    go_enter Try.func43, Try.ntmps43
    go_wp2_with (go_at_call 56; refine (HA.out _).mono ?_; rintro e wa ⟨rfl, hba⟩; have hx := HX.out.kept hba; have r0 := hx.r.1; have r1 := hx.r.2.1; have y0 := hx.z.c0; have y1 := hx.z.c1; have y2 := hx.z.f0; have y3 := hx.z.f1; have lt1 := hx.z.lt; have HX2 := Lib.hid hx; clear hx hba)
    obtain ⟨z0, z1, hzb⟩ := HX2.out.z.done 0 0
    refine bodyPost_ret (v := ratRet 0 0 false) ?_ rfl ⟨rfl, hzb⟩
    clear hzb
    generalize (wa.setCell ⟨w.heap.size + 1, 0, none⟩ (.int .i64 0)).setCell ⟨w.heap.size + 1, 1, none⟩ (.int .i64 0) = WF at *
    simp [results, Try.f43, go_sem, z0, z1]
end Go.Proofs.Ytfimcadnlhohlaa
