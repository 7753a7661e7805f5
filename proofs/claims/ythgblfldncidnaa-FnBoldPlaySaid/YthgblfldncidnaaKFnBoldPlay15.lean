/- Pack 15 of what FnBoldPlay needs: BoS, ErS. -/
import Derived.Test.YthgblfldncidnaaKFnBoldPlay14
/- The model's BoldChance. -/
namespace Go.Proofs.Ythgblfldncidnaa
open Go.RowKit
set_option linter.unusedVariables false
set_option maxHeartbeats 1000000 in
theorem ruBold_ends (g n d : Int) (hg : 1 ≤ g ∧ g ≤ 12) (r : Nat) (i e : Int) (w : World) (h : i = 0 ∨ i = g) :
    Calls Try.prog 24 #[.int .i64 i, .int .i64 g, .agg #[.int .i64 n, .int .i64 d], .int .i64 e] w (Ret w (.tuple #[.int .i64 (bo g n d r i).1, .int .i64 (bo g n d r i).2])) := by
  have hb0 := (RBox.start w n d).2.2.2
  rcases h with h | h
  · subst h
    rw [bo_zero]
    go_enter Try.func24, Try.ntmps24
    go_wp2_with fail
    go_ret2
    exact ⟨rfl, hb0⟩
  · rw [h, bo_goal _ _ _ (by omega)]
    have j1 : (g == 0) = false := beq_eq_false_iff_ne.2 (by omega)
    clear h
    go_enter Try.func24, Try.ntmps24
    go_wp2_with fail
    go_ret2
    exact ⟨rfl, hb0⟩
set_option maxRecDepth 100000 in
set_option maxHeartbeats 4000000 in
theorem ruBold_any (g n d : Int) (hg : 1 ≤ g ∧ g ≤ 12) (hn : 1 ≤ n) (hd : n ≤ d) (hd6 : d ≤ 6) : ∀ (r : Nat) (i e : Int) (w : World), r ≤ 4 → 0 ≤ i ∧ i ≤ g → e = 4 - (r : Int) →
    Calls Try.prog 24 #[.int .i64 i, .int .i64 g, .agg #[.int .i64 n, .int .i64 d], .int .i64 e] w (Ret w (.tuple #[.int .i64 (bo g n d r i).1, .int .i64 (bo g n d r i).2])) := by
  intro r
  induction r with
  | zero =>
    intro i e w hr hi he
    by_cases hends : i = 0 ∨ i = g
    · exact ruBold_ends g n d hg 0 i e w hends
    · have h0 : ¬ i = 0 := fun h => hends (.inl h)
      have h1 : ¬ i = g := fun h => hends (.inr h)
      have j0 : (i == 0) = false := beq_eq_false_iff_ne.2 h0
      have j1 : (i == g) = false := beq_eq_false_iff_ne.2 h1
      have hb0 := (RBox.start w n d).2.2.2
      clear hends
      have e1 : bo g n d 0 i = (0, 1) := by unfold bo; rw [if_neg h0, if_neg h1]
      rw [e1]
      have j2 : 3 < e := by omega
      clear he e1 h0 h1
      go_enter Try.func24, Try.ntmps24
      go_wp2_with fail
      go_ret2
      exact ⟨rfl, hb0⟩
  | succ r ih =>
    intro i e w hr hi he
    by_cases hends : i = 0 ∨ i = g
    · exact ruBold_ends g n d hg (r + 1) i e w hends
    · have h0 : ¬ i = 0 := fun h => hends (.inl h)
      have h1 : ¬ i = g := fun h => hends (.inr h)
      have j0 : (i == 0) = false := beq_eq_false_iff_ne.2 h0
      have j1 : (i == g) = false := beq_eq_false_iff_ne.2 h1
      have HB := Lib.hid (RBox.start w n d)
      clear hends
      have j2 : ¬ 3 < e := by omega
      have hks : 0 ≤ boK g i ∧ boK g i ≤ i ∧ boK g i ≤ g - i := by unfold boK; split <;> omega
      have HL : Hid (∀ w, Calls Try.prog 29 #[.int .i64 i, .int .i64 (g - i)] w fun e w' => e = .returned (.int .i64 (boK g i)) ∧ w = w') := Lib.hid fun w => least_any i (g - i) w
      have R1 : Hid (∀ w, Calls Try.prog 24 #[.int .i64 (i + boK g i), .int .i64 g, .agg #[.int .i64 n, .int .i64 d], .int .i64 (e + 1)] w (Ret w (.tuple #[.int .i64 (bo g n d r (i + boK g i)).1, .int .i64 (bo g n d r (i + boK g i)).2]))) := Lib.hid fun w => ih _ _ w (by omega) (by omega) (by omega)
      have R2 : Hid (∀ w, Calls Try.prog 24 #[.int .i64 (i - boK g i), .int .i64 g, .agg #[.int .i64 n, .int .i64 d], .int .i64 (e + 1)] w (Ret w (.tuple #[.int .i64 (bo g n d r (i - boK g i)).1, .int .i64 (bo g n d r (i - boK g i)).2]))) := Lib.hid fun w => ih _ _ w (by omega) (by omega) (by omega)
      have ha := bo_bd (g := g) (n := n) (d := d) (by omega) hd (by omega) hd6 r (i + boK g i)
      have hc := bo_bd (g := g) (n := n) (d := d) (by omega) hd (by omega) hd6 r (i - boK g i)
      have eB : bo g n d (r + 1) i = (n * (bo g n d r (i + boK g i)).1 * (bo g n d r (i - boK g i)).2 + (d - n) * (bo g n d r (i - boK g i)).1 * (bo g n d r (i + boK g i)).2, d * (bo g n d r (i + boK g i)).2 * (bo g n d r (i - boK g i)).2) := by
        rw [bo, if_neg h0, if_neg h1]
      rw [eB]
      have hB := boB3 (show r ≤ 3 by omega)
      have hep : 0 ≤ e ∧ e ≤ 3 := by omega
      clear eB he h0 h1 hr ih
      simp only
      generalize (bo g n d r (i + boK g i)).1 = a at *
      generalize (bo g n d r (i + boK g i)).2 = b at *
      generalize (bo g n d r (i - boK g i)).1 = c at *
      generalize (bo g n d r (i - boK g i)).2 = q at *
      generalize boK g i = s at *
      have m1 := mul_le_of' (x := n) (y := a) (A := 6) (B := 279936) (by omega) (by omega)
      have m2 := mul_le_of' (x := n * a) (y := q) (A := 6 * 279936) (B := 279936) (by omega) (by omega)
      have m3 := mul_le_of' (x := d - n) (y := c) (A := 6) (B := 279936) (by omega) (by omega)
      have m4 := mul_le_of' (x := (d - n) * c) (y := b) (A := 6 * 279936) (B := 279936) (by omega) (by omega)
      have m5 := mul_le_of' (x := d) (y := b) (A := 6) (B := 279936) (by omega) (by omega)
      have m6 := mul_le_of' (x := d * b) (y := q) (A := 6 * 279936) (B := 279936) (by omega) (by omega)
      have k1 := IntWalk.i64_in (n * a) (by omega)
      have k2 := IntWalk.i64_in (n * a * q) (by omega)
      have k3 := IntWalk.i64_in (d - n) (by omega)
      have k4 := IntWalk.i64_in ((d - n) * c) (by omega)
      have k5 := IntWalk.i64_in ((d - n) * c * b) (by omega)
      have k6 := IntWalk.i64_in (n * a * q + (d - n) * c * b) (by omega)
      have k7 := IntWalk.i64_in (d * b) (by omega)
      have k8 := IntWalk.i64_in (d * b * q) (by omega)
      go_enter Try.func24, Try.ntmps24
      go_wp2_with (go_at_call 29; refine (HL.out _).mono ?_; rintro en w' ⟨rfl, rfl⟩)
      refine (R1.out _).mono ?_
      rintro en wa ⟨rfl, hba⟩
      have hx := HB.out.kept hba
      have r0 := hx.1
      have r1 := hx.2.1
      have HX := Lib.hid hx
      clear hx hba
      go_wp2_with fail
      refine (R2.out _).mono ?_
      rintro en wb ⟨rfl, hbb⟩
      have hx := HX.out.kept hbb
      clear r0 r1 hbb
      have r0 := hx.1
      have r1 := hx.2.1
      have HX2 := Lib.hid hx
      clear hx
      go_wp2_with fail
      go_quiet (fail)
      go_wp2_with fail
      go_ret2
      exact ⟨rfl, below_drewN HX2.out.2.2.2 _⟩
def boG (g : Int) : Bool := (g == 1 || g == 2) || (g == 4 || g == 8)
def bcOk (i g n d : Int) : Bool := askB i g n d && boG g
def bcP (i g n d : Int) : Int := if bcOk i g n d = true then numZ (bo g n d 4 i).1 (bo g n d 4 i).2 else 0
def bcQ (i g n d : Int) : Int := if bcOk i g n d = true then denZ (bo g n d 4 i).1 (bo g n d 4 i).2 else 0
set_option maxRecDepth 100000 in
set_option maxHeartbeats 2000000 in
theorem specBold_ret (i g n d : Int) (w : World) : Calls Try.prog 7 #[.int .i64 i, .int .i64 g, .agg #[.int .i64 n, .int .i64 d]] w (Ret w (ratRet (bcP i g n d) (bcQ i g n d) (bcOk i g n d))) := by
  have HA : Hid (∀ w, Calls Try.prog 23 #[.int .i64 i, .int .i64 g, .agg #[.int .i64 n, .int .i64 d]] w (Ret w (.bool (askB i g n d)))) := Lib.hid fun w => ruAsked_any i g n d w
  have HX := Lib.hid (RZ.start w n d)
  rcases Bool.eq_false_or_eq_true (askB i g n d) with ha | ha
  · obtain ⟨bg, bi, bd, bn⟩ := askB_of ha
    rcases Bool.eq_false_or_eq_true (boG g) with hb | hb
    · have hok : bcOk i g n d = true := by unfold bcOk; rw [ha, hb]; rfl
      unfold bcP bcQ
      simp only [if_pos hok]
      rw [hok]
      rw [ha] at HA
      have HBO : Hid (∀ w, Calls Try.prog 24 #[.int .i64 i, .int .i64 g, .agg #[.int .i64 n, .int .i64 d], .int .i64 0] w (Ret w (.tuple #[.int .i64 (bo g n d 4 i).1, .int .i64 (bo g n d 4 i).2]))) := Lib.hid fun w => ruBold_any g n d bg (by omega) (by omega) (by omega) 4 i 0 w (by omega) bi (by omega)
      have b1 := bo_bd (g := g) (n := n) (d := d) (by omega) (by omega) (by omega) (by omega) 4 i
      have b2 := boB4 (r := 4) (by omega)
      have hgs : g = 1 ∨ g = 2 ∨ g = 4 ∨ g = 8 := by
        unfold boG at hb
        simp only [Bool.or_eq_true, beq_iff_eq] at hb
        omega
      generalize (bo g n d 4 i).1 = p at *
      generalize (bo g n d 4 i).2 = q at *
      have HR : Hid (∀ w, Calls Try.prog 25 #[.int .i64 p, .int .i64 q] w (Ret w (.agg #[.int .i64 (numZ p q), .int .i64 (denZ p q)]))) := Lib.hid fun w => ruRatioZ_any p q w (by omega) (by omega)
      generalize numZ p q = x at *
      generalize denZ p q = y at *
      clear hok ha hb b1 b2
      rcases hgs with hg | hg | hg | hg
      · have k0 : (g != 1) = false := by rw [hg]; rfl
        clear hg
        go_enter Try.func7, Try.ntmps7
        go_wp2_with (first | (go_at_call 23; refine (HA.out _).mono ?_; rintro e wa ⟨rfl, hba⟩; have hx := HX.out.kept hba; have r0 := hx.r.1; have r1 := hx.r.2.1; have y0 := hx.z.c0; have y1 := hx.z.c1; have y2 := hx.z.f0; have y3 := hx.z.f1; have lt1 := hx.z.lt; have HX2 := Lib.hid hx; clear hx hba) | (go_at_call 24; refine (HBO.out _).mono ?_; rintro e ww ⟨rfl, hbw⟩; have hx := HX2.out.kept hbw; have q0 := hx.z.c0; have q1 := hx.z.c1; have q2 := hx.z.f0; have q3 := hx.z.f1; have HX3 := Lib.hid hx; clear hx hbw r0 r1 y0 y1 y2 y3) | (go_at_call 25; refine (HR.out _).mono ?_; rintro e wz ⟨rfl, hbz⟩; have hx := HX3.out.kept hbz; have s0 := hx.z.c0; have s1 := hx.z.c1; have s2 := hx.z.f0; have s3 := hx.z.f1; have HX4 := Lib.hid hx; clear hx hbz q0 q1 q2 q3))
        obtain ⟨z0, z1, hzb⟩ := HX4.out.z.done x y
        refine bodyPost_ret (v := ratRet x y true) ?_ rfl ⟨rfl, hzb⟩
        clear hzb
        generalize (wz.setCell ⟨w.heap.size + 1, 0, none⟩ (.int .i64 x)).setCell ⟨w.heap.size + 1, 1, none⟩ (.int .i64 y) = WF at *
        simp [results, Try.f7, go_sem, z0, z1]
      · have k0 : (g != 1) = true := by rw [hg]; rfl
        have k1 : (g != 2) = false := by rw [hg]; rfl
        clear hg
        go_enter Try.func7, Try.ntmps7
        go_wp2_with (first | (go_at_call 23; refine (HA.out _).mono ?_; rintro e wa ⟨rfl, hba⟩; have hx := HX.out.kept hba; have r0 := hx.r.1; have r1 := hx.r.2.1; have y0 := hx.z.c0; have y1 := hx.z.c1; have y2 := hx.z.f0; have y3 := hx.z.f1; have lt1 := hx.z.lt; have HX2 := Lib.hid hx; clear hx hba) | (go_at_call 24; refine (HBO.out _).mono ?_; rintro e ww ⟨rfl, hbw⟩; have hx := HX2.out.kept hbw; have q0 := hx.z.c0; have q1 := hx.z.c1; have q2 := hx.z.f0; have q3 := hx.z.f1; have HX3 := Lib.hid hx; clear hx hbw r0 r1 y0 y1 y2 y3) | (go_at_call 25; refine (HR.out _).mono ?_; rintro e wz ⟨rfl, hbz⟩; have hx := HX3.out.kept hbz; have s0 := hx.z.c0; have s1 := hx.z.c1; have s2 := hx.z.f0; have s3 := hx.z.f1; have HX4 := Lib.hid hx; clear hx hbz q0 q1 q2 q3))
        obtain ⟨z0, z1, hzb⟩ := HX4.out.z.done x y
        refine bodyPost_ret (v := ratRet x y true) ?_ rfl ⟨rfl, hzb⟩
        clear hzb
        generalize (wz.setCell ⟨w.heap.size + 1, 0, none⟩ (.int .i64 x)).setCell ⟨w.heap.size + 1, 1, none⟩ (.int .i64 y) = WF at *
        simp [results, Try.f7, go_sem, z0, z1]
      · have k0 : (g != 1) = true := by rw [hg]; rfl
        have k1 : (g != 2) = true := by rw [hg]; rfl
        have k2 : (g != 4) = false := by rw [hg]; rfl
        clear hg
        go_enter Try.func7, Try.ntmps7
        go_wp2_with (first | (go_at_call 23; refine (HA.out _).mono ?_; rintro e wa ⟨rfl, hba⟩; have hx := HX.out.kept hba; have r0 := hx.r.1; have r1 := hx.r.2.1; have y0 := hx.z.c0; have y1 := hx.z.c1; have y2 := hx.z.f0; have y3 := hx.z.f1; have lt1 := hx.z.lt; have HX2 := Lib.hid hx; clear hx hba) | (go_at_call 24; refine (HBO.out _).mono ?_; rintro e ww ⟨rfl, hbw⟩; have hx := HX2.out.kept hbw; have q0 := hx.z.c0; have q1 := hx.z.c1; have q2 := hx.z.f0; have q3 := hx.z.f1; have HX3 := Lib.hid hx; clear hx hbw r0 r1 y0 y1 y2 y3) | (go_at_call 25; refine (HR.out _).mono ?_; rintro e wz ⟨rfl, hbz⟩; have hx := HX3.out.kept hbz; have s0 := hx.z.c0; have s1 := hx.z.c1; have s2 := hx.z.f0; have s3 := hx.z.f1; have HX4 := Lib.hid hx; clear hx hbz q0 q1 q2 q3))
        obtain ⟨z0, z1, hzb⟩ := HX4.out.z.done x y
        refine bodyPost_ret (v := ratRet x y true) ?_ rfl ⟨rfl, hzb⟩
        clear hzb
        generalize (wz.setCell ⟨w.heap.size + 1, 0, none⟩ (.int .i64 x)).setCell ⟨w.heap.size + 1, 1, none⟩ (.int .i64 y) = WF at *
        simp [results, Try.f7, go_sem, z0, z1]
      · have k0 : (g != 1) = true := by rw [hg]; rfl
        have k1 : (g != 2) = true := by rw [hg]; rfl
        have k2 : (g != 4) = true := by rw [hg]; rfl
        have k3 : (g != 8) = false := by rw [hg]; rfl
        clear hg
        go_enter Try.func7, Try.ntmps7
        go_wp2_with (first | (go_at_call 23; refine (HA.out _).mono ?_; rintro e wa ⟨rfl, hba⟩; have hx := HX.out.kept hba; have r0 := hx.r.1; have r1 := hx.r.2.1; have y0 := hx.z.c0; have y1 := hx.z.c1; have y2 := hx.z.f0; have y3 := hx.z.f1; have lt1 := hx.z.lt; have HX2 := Lib.hid hx; clear hx hba) | (go_at_call 24; refine (HBO.out _).mono ?_; rintro e ww ⟨rfl, hbw⟩; have hx := HX2.out.kept hbw; have q0 := hx.z.c0; have q1 := hx.z.c1; have q2 := hx.z.f0; have q3 := hx.z.f1; have HX3 := Lib.hid hx; clear hx hbw r0 r1 y0 y1 y2 y3) | (go_at_call 25; refine (HR.out _).mono ?_; rintro e wz ⟨rfl, hbz⟩; have hx := HX3.out.kept hbz; have s0 := hx.z.c0; have s1 := hx.z.c1; have s2 := hx.z.f0; have s3 := hx.z.f1; have HX4 := Lib.hid hx; clear hx hbz q0 q1 q2 q3))
        obtain ⟨z0, z1, hzb⟩ := HX4.out.z.done x y
        refine bodyPost_ret (v := ratRet x y true) ?_ rfl ⟨rfl, hzb⟩
        clear hzb
        generalize (wz.setCell ⟨w.heap.size + 1, 0, none⟩ (.int .i64 x)).setCell ⟨w.heap.size + 1, 1, none⟩ (.int .i64 y) = WF at *
        simp [results, Try.f7, go_sem, z0, z1]
    · have hok : bcOk i g n d = false := by unfold bcOk; rw [ha, hb]; rfl
      have e1 : bcP i g n d = 0 := by unfold bcP; rw [hok]; rfl
      have e2 : bcQ i g n d = 0 := by unfold bcQ; rw [hok]; rfl
      rw [e1, e2, hok]
      rw [ha] at HA
      unfold boG at hb
      simp only [Bool.or_eq_false_iff, beq_eq_false_iff_ne] at hb
      have k1 : (g != 1) = true := by rw [bne_iff_ne]; exact hb.1.1
      have k2 : (g != 2) = true := by rw [bne_iff_ne]; exact hb.1.2
      have k3 : (g != 4) = true := by rw [bne_iff_ne]; exact hb.2.1
      have k4 : (g != 8) = true := by rw [bne_iff_ne]; exact hb.2.2
      clear hok e1 e2 ha hb
      go_enter Try.func7, Try.ntmps7
      go_wp2_with (go_at_call 23; refine (HA.out _).mono ?_; rintro e wa ⟨rfl, hba⟩; have hx := HX.out.kept hba; have r0 := hx.r.1; have r1 := hx.r.2.1; have y0 := hx.z.c0; have y1 := hx.z.c1; have y2 := hx.z.f0; have y3 := hx.z.f1; have lt1 := hx.z.lt; have HX2 := Lib.hid hx; clear hx hba)
      obtain ⟨z0, z1, hzb⟩ := HX2.out.z.done 0 0
      refine bodyPost_ret (v := ratRet 0 0 false) ?_ rfl ⟨rfl, hzb⟩
      clear hzb
      generalize (wa.setCell ⟨w.heap.size + 1, 0, none⟩ (.int .i64 0)).setCell ⟨w.heap.size + 1, 1, none⟩ (.int .i64 0) = WF at *
      simp [results, Try.f7, go_sem, z0, z1]
  · have hok : bcOk i g n d = false := by unfold bcOk; rw [ha]; rfl
    have e1 : bcP i g n d = 0 := by unfold bcP; rw [hok]; rfl
    have e2 : bcQ i g n d = 0 := by unfold bcQ; rw [hok]; rfl
    rw [e1, e2, hok]
    rw [ha] at HA
    clear hok e1 e2 ha
    go_enter Try.func7, Try.ntmps7
    go_wp2_with (go_at_call 23; refine (HA.out _).mono ?_; rintro e wa ⟨rfl, hba⟩; have hx := HX.out.kept hba; have r0 := hx.r.1; have r1 := hx.r.2.1; have y0 := hx.z.c0; have y1 := hx.z.c1; have y2 := hx.z.f0; have y3 := hx.z.f1; have lt1 := hx.z.lt; have HX2 := Lib.hid hx; clear hx hba)
    obtain ⟨z0, z1, hzb⟩ := HX2.out.z.done 0 0
    refine bodyPost_ret (v := ratRet 0 0 false) ?_ rfl ⟨rfl, hzb⟩
    clear hzb
    generalize (wa.setCell ⟨w.heap.size + 1, 0, none⟩ (.int .i64 0)).setCell ⟨w.heap.size + 1, 1, none⟩ (.int .i64 0) = WF at *
    simp [results, Try.f7, go_sem, z0, z1]
end Go.Proofs.Ythgblfldncidnaa

/- The model's EverRuined, FairVisits. -/
namespace Go.Proofs.Ythgblfldncidnaa
open Go.RowKit
set_option linter.unusedVariables false
def erOk (i n d : Int) : Bool := inBd 0 12 i && ruB n d
def erP (i n d : Int) : Int := if erOk i n d = true then (if n ≤ d - n then 1 else numZ ((d - n) ^ i.toNat) (n ^ i.toNat)) else 0
def erQ (i n d : Int) : Int := if erOk i n d = true then (if n ≤ d - n then 1 else denZ ((d - n) ^ i.toNat) (n ^ i.toNat)) else 0
def fvOk (i j g : Int) : Bool := (inBd 1 12 g && inBd 1 (g - 1) i) && inBd 1 (g - 1) j
def fvN (i j g : Int) : Int := 2 * (if j < i then j else i) * (g - (if i < j then j else i))
def fvP (i j g : Int) : Int := if fvOk i j g = true then numZ (fvN i j g) g else 0
def fvQ (i j g : Int) : Int := if fvOk i j g = true then denZ (fvN i j g) g else 0
theorem ZBox.first (w : World) : ZBox w w.heap.size (w.alloc (.cells #[.int .i64 0, .int .i64 0] 25)) :=
  ⟨by simp [go_sem], by simp [go_sem], by simp [go_sem], by simp [go_sem], by simp, Nat.le_refl _, (Below.refl _ _).alloc (Nat.le_refl _) _⟩
set_option maxRecDepth 100000 in
set_option maxHeartbeats 1000000 in
theorem specFair_ret (i j g : Int) (w : World) : Calls Try.prog 11 #[.int .i64 i, .int .i64 j, .int .i64 g] w (Ret w (ratRet (fvP i j g) (fvQ i j g) (fvOk i j g))) := by
  have H1 : Hid (∀ w, Calls Try.prog 31 #[.int .i64 g, .int .i64 1, .int .i64 12] w fun e w' => e = .returned (.bool (inBd 1 12 g)) ∧ w = w') := Lib.hid fun w => in_any g 1 12 w
  have H2 : Hid (∀ w, Calls Try.prog 31 #[.int .i64 i, .int .i64 1, .int .i64 (g - 1)] w fun e w' => e = .returned (.bool (inBd 1 (g - 1) i)) ∧ w = w') := Lib.hid fun w => in_any i 1 (g - 1) w
  have H3 : Hid (∀ w, Calls Try.prog 31 #[.int .i64 j, .int .i64 1, .int .i64 (g - 1)] w fun e w' => e = .returned (.bool (inBd 1 (g - 1) j)) ∧ w = w') := Lib.hid fun w => in_any j 1 (g - 1) w
  have HZ := Lib.hid (ZBox.first w)
  have hzb := HZ.out.below
  rcases Bool.eq_false_or_eq_true (inBd 1 12 g) with a1 | a1
  · have hg : 1 ≤ g ∧ g ≤ 12 := by unfold inBd at a1; simpa only [Bool.and_eq_true, decide_eq_true_eq] using a1
    rcases Bool.eq_false_or_eq_true (inBd 1 (g - 1) i) with a2 | a2
    · have hi : 1 ≤ i ∧ i ≤ g - 1 := by unfold inBd at a2; simpa only [Bool.and_eq_true, decide_eq_true_eq] using a2
      rcases Bool.eq_false_or_eq_true (inBd 1 (g - 1) j) with a3 | a3
      · have hj : 1 ≤ j ∧ j ≤ g - 1 := by unfold inBd at a3; simpa only [Bool.and_eq_true, decide_eq_true_eq] using a3
        have hok : fvOk i j g = true := by unfold fvOk; rw [a1, a2, a3]; rfl
        have e1 : fvP i j g = numZ (fvN i j g) g := by unfold fvP; rw [if_pos hok]
        have e2 : fvQ i j g = denZ (fvN i j g) g := by unfold fvQ; rw [if_pos hok]
        rw [e1, e2, hok]
        rw [a1] at H1
        rw [a2] at H2
        rw [a3] at H3
        have HLE : Hid (∀ w, Calls Try.prog 29 #[.int .i64 i, .int .i64 j] w fun e w' => e = .returned (.int .i64 (if j < i then j else i)) ∧ w = w') := Lib.hid fun w => least_any i j w
        have HMO : Hid (∀ w, Calls Try.prog 16 #[.int .i64 i, .int .i64 j] w fun e w' => e = .returned (.int .i64 (if i < j then j else i)) ∧ w = w') := Lib.hid fun w => most_any i j w
        unfold fvN
        have l1 : 1 ≤ (if j < i then j else i) ∧ (if j < i then j else i) ≤ 12 := by split <;> omega
        have l2 : 1 ≤ (if i < j then j else i) ∧ (if i < j then j else i) ≤ g - 1 := by split <;> omega
        generalize (if j < i then j else i) = a at *
        generalize (if i < j then j else i) = b at *
        have m1 := mul_le_of' (x := 2 * a) (y := g - b) (A := 24) (B := 12) (by omega) (by omega)
        have HR : Hid (∀ w, Calls Try.prog 25 #[.int .i64 (2 * a * (g - b)), .int .i64 g] w (Ret w (.agg #[.int .i64 (numZ (2 * a * (g - b)) g), .int .i64 (denZ (2 * a * (g - b)) g)]))) := Lib.hid fun w => ruRatioZ_any _ g w (by omega) (by omega)
        generalize numZ (2 * a * (g - b)) g = x at *
        generalize denZ (2 * a * (g - b)) g = y at *
        clear hok e1 e2 a1 a2 a3 hzb
        go_enter Try.func11, Try.ntmps11
        go_wp2_with fail
        refine (H1.out _).mono ?_
        rintro e w' ⟨rfl, rfl⟩
        go_wp2_with fail
        refine (H2.out _).mono ?_
        rintro e w' ⟨rfl, rfl⟩
        go_wp2_with fail
        refine (H3.out _).mono ?_
        rintro e w' ⟨rfl, rfl⟩
        go_wp2_with (first | (go_at_call 29; refine (HLE.out _).mono ?_; rintro e w' ⟨rfl, rfl⟩) | (go_at_call 16; refine (HMO.out _).mono ?_; rintro e w' ⟨rfl, rfl⟩) | (go_at_call 25; refine (HR.out _).mono ?_; rintro e wz ⟨rfl, hbz⟩; have hx := HZ.out.kept hbz; have s0 := hx.c0; have s1 := hx.c1; have s2 := hx.f0; have s3 := hx.f1; have HX4 := Lib.hid hx; clear hx hbz))
        obtain ⟨z0, z1, hzb⟩ := HX4.out.done x y
        refine bodyPost_ret (v := ratRet x y true) ?_ rfl ⟨rfl, hzb⟩
        clear hzb
        generalize (wz.setCell ⟨w.heap.size, 0, none⟩ (.int .i64 x)).setCell ⟨w.heap.size, 1, none⟩ (.int .i64 y) = WF at *
        simp [results, Try.f11, go_sem, z0, z1]
      · have hok : fvOk i j g = false := by unfold fvOk; rw [a1, a2, a3]; rfl
        have e1 : fvP i j g = 0 := by unfold fvP; rw [hok]; rfl
        have e2 : fvQ i j g = 0 := by unfold fvQ; rw [hok]; rfl
        rw [e1, e2, hok]
        rw [a1] at H1
        rw [a2] at H2
        rw [a3] at H3
        clear hok e1 e2 a1 a2 a3
        go_enter Try.func11, Try.ntmps11
        go_wp2_with fail
        refine (H1.out _).mono ?_
        rintro e w' ⟨rfl, rfl⟩
        go_wp2_with fail
        refine (H2.out _).mono ?_
        rintro e w' ⟨rfl, rfl⟩
        go_wp2_with fail
        refine (H3.out _).mono ?_
        rintro e w' ⟨rfl, rfl⟩
        go_wp2_with fail
        exact bodyPost_ret (v := ratRet 0 0 false) (by simp [results, Try.f11, go_sem]) rfl ⟨rfl, hzb⟩
    · have hok : fvOk i j g = false := by unfold fvOk; rw [a1, a2]; rfl
      have e1 : fvP i j g = 0 := by unfold fvP; rw [hok]; rfl
      have e2 : fvQ i j g = 0 := by unfold fvQ; rw [hok]; rfl
      rw [e1, e2, hok]
      rw [a1] at H1
      rw [a2] at H2
      clear hok e1 e2 a1 a2
      go_enter Try.func11, Try.ntmps11
      go_wp2_with fail
      refine (H1.out _).mono ?_
      rintro e w' ⟨rfl, rfl⟩
      go_wp2_with fail
      refine (H2.out _).mono ?_
      rintro e w' ⟨rfl, rfl⟩
      go_wp2_with fail
      exact bodyPost_ret (v := ratRet 0 0 false) (by simp [results, Try.f11, go_sem]) rfl ⟨rfl, hzb⟩
  · have hok : fvOk i j g = false := by unfold fvOk; rw [a1]; rfl
    have e1 : fvP i j g = 0 := by unfold fvP; rw [hok]; rfl
    have e2 : fvQ i j g = 0 := by unfold fvQ; rw [hok]; rfl
    rw [e1, e2, hok]
    rw [a1] at H1
    clear hok e1 e2 a1
    go_enter Try.func11, Try.ntmps11
    go_wp2_with fail
    refine (H1.out _).mono ?_
    rintro e w' ⟨rfl, rfl⟩
    go_wp2_with fail
    exact bodyPost_ret (v := ratRet 0 0 false) (by simp [results, Try.f11, go_sem]) rfl ⟨rfl, hzb⟩
end Go.Proofs.Ythgblfldncidnaa
