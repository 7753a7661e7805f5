/- Pack 33 of what FnBoldPlay needs: BoI, DegI. -/
import Derived.Test.YthgblfldncidnaaKFnBoldPlay32
import Derived.Lib.MinMax
/- The program's boldParts, BoldChance. -/
namespace Go.Proofs.Ythgblfldncidnaa
open Go.RowKit
set_option linter.unusedVariables false
theorem boK_min (g i : Int) : boK g i = min i (g - i) := by
  unfold boK
  split <;> omega
/-- what is held is a multiple of the goal's part -/
theorem bold_step {g i : Int} {r : Nat} (h : g ∣ i * 2 ^ (r + 1)) : g ∣ (i + boK g i) * 2 ^ r ∧ g ∣ (i - boK g i) * 2 ^ r := by
  have e : i * 2 ^ (r + 1) = (2 * i) * 2 ^ r := by rw [Int.pow_succ, Int.mul_comm (2 ^ r) 2, ← Int.mul_assoc, Int.mul_comm i 2]
  rw [e] at h
  unfold boK
  split
  · refine ⟨?_, ?_⟩
    · rw [show i + (g - i) = g by omega]
      exact Int.dvd_mul_right _ _
    · rw [show i - (g - i) = 2 * i - g by omega, Int.sub_mul]
      exact Int.dvd_sub h (Int.dvd_mul_right _ _)
  · refine ⟨?_, ?_⟩
    · rw [show i + i = 2 * i by omega]
      exact h
    · rw [show i - i = 0 by omega, Int.zero_mul]
      exact Int.dvd_zero _
theorem bold_zero {g i : Int} (hg : 1 ≤ g) (hi : 0 ≤ i ∧ i ≤ g) (h : g ∣ i * 2 ^ 0) : i = 0 ∨ i = g := by
  rw [Int.pow_zero, Int.mul_one] at h
  obtain ⟨k, hk⟩ := h
  by_cases h0 : i = 0
  · exact .inl h0
  · right
    have hk1 : 1 ≤ k := by
      rcases Int.lt_or_le 0 k with h1 | h1
      · exact h1
      · exfalso
        have := Int.mul_nonpos_of_nonneg_of_nonpos (show 0 ≤ g by omega) h1
        omega
    have := Int.mul_le_mul_of_nonneg_left hk1 (show 0 ≤ g by omega)
    omega
theorem pow3 {d : Int} (hd : 0 ≤ d ∧ d ≤ 6) {r : Nat} (hr : r ≤ 3) : 0 ≤ d ^ r ∧ d ^ r ≤ 216 := by
  obtain ⟨a, rfl⟩ := Int.eq_ofNat_of_zero_le hd.1
  rw [← pow_cast]
  have h1 : a ^ r ≤ 6 ^ r := Nat.pow_le_pow_left (by omega) r
  have h2 : (6 : Nat) ^ r ≤ 6 ^ 3 := Nat.pow_le_pow_right (by omega) hr
  have h3 : (6 : Nat) ^ 3 = 216 := by decide
  omega
set_option maxHeartbeats 1000000 in
theorem bold_ends (g n d : Int) (hg : 1 ≤ g ∧ g ≤ 12) (hd : 0 ≤ d ∧ d ≤ 6) (r : Nat) (hr : r ≤ 3) (i : Int) (w : World) (h : i = 0 ∨ i = g) :
    Calls Try.prog 21 #[.int .i64 i, .int .i64 g, .agg #[.int .i64 n, .int .i64 d], .int .i64 (r : Int)] w (Ret w (.int .i64 (bI g n d r i))) := by
  have hbx := RBox.start w n d
  have c0 := hbx.1
  have c1 := hbx.2.1
  have hb0 := hbx.2.2.2
  clear hbx
  rcases h with h | h
  · have e : bI g n d r i = 0 := by
      rw [h]
      cases r <;> simp [bI]
    rw [e]
    subst h
    clear e
    go_enter Try.func21, Try.ntmps21
    go_wp2_with fail
    go_ret
    exact ⟨rfl, hb0⟩
  · have e : bI g n d r i = d ^ r := by
      rw [h]
      cases r with
      | zero => rw [bI, if_neg (by omega), Int.pow_zero]
      | succ r => rw [bI, if_neg (by omega), if_pos rfl]
    rw [e]
    subst h
    have HP : Hid (∀ w, Calls Try.prog 22 #[.int .i64 d, .int .i64 (r : Int)] w fun e w' => e = .returned (.int .i64 (d ^ r)) ∧ w = w') := Lib.hid fun w => powerN_any d r w hd (by omega)
    have k0 : (i == 0) = false := beq_eq_false_iff_ne.2 (by omega)
    generalize d ^ r = z at *
    clear e
    go_enter Try.func21, Try.ntmps21
    go_wp2_with (go_at_call 22; refine (HP.out _).mono ?_; rintro e w' ⟨rfl, rfl⟩)
    go_ret
    exact ⟨rfl, hb0⟩
set_option maxRecDepth 100000 in
set_option maxHeartbeats 2000000 in
theorem boldParts_any (g n d : Int) (hg : 1 ≤ g ∧ g ≤ 12) (hn : 1 ≤ n) (hnd : n ≤ d - 1) (hd6 : d ≤ 6) : ∀ (r : Nat) (i e : Int) (w : World), r ≤ 3 → 0 ≤ i ∧ i ≤ g → g ∣ i * 2 ^ r → e = (r : Int) →
    Calls Try.prog 21 #[.int .i64 i, .int .i64 g, .agg #[.int .i64 n, .int .i64 d], .int .i64 e] w (Ret w (.int .i64 (bI g n d r i))) := by
  intro r
  induction r with
  | zero =>
    intro i e w hr hi hdv he
    subst he
    exact bold_ends g n d hg (by omega) 0 (by omega) i w (bold_zero hg.1 hi hdv)
  | succ r ih =>
    intro i e w hr hi hdv he
    by_cases hz : i = 0 ∨ i = g
    · subst he
      exact bold_ends g n d hg (by omega) (r + 1) hr i w hz
    · have hs := bold_step hdv
      have hk : 1 ≤ boK g i ∧ boK g i ≤ i ∧ boK g i ≤ g - i := by unfold boK; split <;> omega
      have W1 : Hid (∀ w, Calls Try.prog 21 #[.int .i64 (i + boK g i), .int .i64 g, .agg #[.int .i64 n, .int .i64 d], .int .i64 (e - 1)] w (Ret w (.int .i64 (bI g n d r (i + boK g i))))) := Lib.hid fun w => ih _ _ w (by omega) (by omega) hs.1 (by omega)
      have W2 : Hid (∀ w, Calls Try.prog 21 #[.int .i64 (i - boK g i), .int .i64 g, .agg #[.int .i64 n, .int .i64 d], .int .i64 (e - 1)] w (Ret w (.int .i64 (bI g n d r (i - boK g i))))) := Lib.hid fun w => ih _ _ w (by omega) (by omega) hs.2 (by omega)
      have hv : bI g n d (r + 1) i = n * bI g n d r (i + boK g i) + (d - n) * bI g n d r (i - boK g i) := by rw [bI, if_neg (by omega), if_neg (by omega)]
      have v1 := bI_bd (g := g) (n := n) (d := d) (by omega) (by omega) (by omega) r (i + boK g i)
      have v2 := bI_bd (g := g) (n := n) (d := d) (by omega) (by omega) (by omega) r (i - boK g i)
      have v3 := pow3 (d := d) (by omega) (r := r) (by omega)
      rw [hv]
      generalize bI g n d r (i + boK g i) = p at *
      generalize bI g n d r (i - boK g i) = q at *
      have m1 := mul_le_of' (x := n) (y := p) (A := 6) (B := 216) (by omega) (by omega)
      have m2 := mul_le_of' (x := d - n) (y := q) (A := 6) (B := 216) (by omega) (by omega)
      have HRE : Hid (∀ w, Calls Try.prog 33 #[.agg #[.int .i64 n, .int .i64 d]] w (Ret w (.int .i64 (d - n)))) := Lib.hid fun w => rest_any n d w (by omega)
      rw [boK_min] at W1 W2 hk
      have k0 : (i == 0) = false := beq_eq_false_iff_ne.2 (by omega)
      have k1 : (i == g) = false := beq_eq_false_iff_ne.2 (by omega)
      have k2 := IntWalk.i64_in (n * p) (by omega)
      have k3 := IntWalk.i64_in ((d - n) * q) (by omega)
      have k4 := IntWalk.i64_in (n * p + (d - n) * q) (by omega)
      have k5 : -9223372036854775808 ≤ e - 1 ∧ e - 1 ≤ 9223372036854775807 := by omega
      have k6 : -9223372036854775808 ≤ i + min i (g - i) ∧ i + min i (g - i) ≤ 9223372036854775807 := by omega
      have k7 : -9223372036854775808 ≤ i - min i (g - i) ∧ i - min i (g - i) ≤ 9223372036854775807 := by omega
      have hbx := RBox.start w n d
      have c0 := hbx.1
      have c1 := hbx.2.1
      have HB := Lib.hid hbx
      clear hbx hv v1 v2 v3 ih hdv hs hz he hk m1 m2
      go_enter Try.func21, Try.ntmps21
      go_wp2_with (go_at_call 21; first | ((with_reducible refine (W1.out _).mono ?_); rintro e w1 ⟨rfl, hb1⟩; have hx := HB.out.kept hb1; have d0 := hx.1; have d1 := hx.2.1; have HB1 := Lib.hid hx; clear hx hb1 c0 c1) | ((with_reducible refine (W2.out _).mono ?_); rintro e w2 ⟨rfl, hb2⟩; have hx := HB1.out.kept hb2; have HB2 := Lib.hid hx; clear hx hb2 d0 d1))
      have HB3 := Lib.hid HB2.out.drew
      have l0 := HB2.out.1
      have l1 := HB2.out.2.1
      go_region_held3 (fun X => X.cell? ⟨w.heap.size, 0, none⟩ = some (.int .i64 n) ∧ X.cell? ⟨w.heap.size, 1, none⟩ = some (.int .i64 d) ∧ RBox w w.heap.size n d X) (first | exact ⟨HB3.out.1, HB3.out.2.1, HB3.out⟩ | assumption | exact rboxKeep (by assumption) (by assumption)) (first | (go_at_call 33; refine (HRE.out _).mono ?_; rintro e w4 ⟨rfl, hb4⟩))
      go_wp2_with fail
      go_ret
      exact ⟨rfl, rboxBel (by assumption)⟩
theorem four_ints (w : World) : RInts (w.alloc (.cells #[.int .i64 1, .int .i64 2, .int .i64 4, .int .i64 8] 3)) (.slice (some ⟨w.heap.size, 0, none⟩) 4 4) [1, 2, 4, 8] :=
  RInts.of_row (B := w.heap.size) (IRow.of_own (World.ownsRow_lit w #[.int .i64 1, .int .i64 2, .int .i64 4, .int .i64 8] 4 (Nat.le_refl _) (by simp [maxLen]) rfl) (by simp) (by simp))
theorem ix_four (g : Int) : decide (0 ≤ ixZ [1, 2, 4, 8] g) = boG g := by
  have e : ixZ [1, 2, 4, 8] g = if (1 : Int) = g then 0 else if (2 : Int) = g then 1 else if (4 : Int) = g then 2 else if (8 : Int) = g then 3 else -1 := rfl
  rw [e]
  unfold boG
  rw [Bool.eq_iff_iff]
  simp only [decide_eq_true_eq, Bool.or_eq_true, beq_iff_eq]
  repeat' split
  all_goals omega
set_option maxHeartbeats 400000 in
theorem contains_any (v : Value) (xs : List Int) (h : Int) (w : World) (hr : RInts w v xs) (hl : xs.length ≤ 1048576) :
    Calls Try.prog 19 #[v, .int .i64 h] w fun e w' => e = .returned (.bool (decide (0 ≤ ixZ xs h))) ∧ w = w' := by
  have HI : Hid (∀ w', w = w' → Calls Try.prog 38 #[v, .int .i64 h] w' fun e w'' => e = .returned (.int .i64 (ixZ xs h)) ∧ w' = w'') := Lib.hid fun w' e => e ▸ index_any v xs h w hr hl
  clear hr
  generalize ixZ xs h = z at *
  go_enter Try.func19, Try.ntmps19
  go_wp2_with (go_at_call 38; refine (HI.out _ rfl).mono ?_; rintro e w' ⟨rfl, rfl⟩)
  go_ret
  exact ⟨by simp, rfl⟩
theorem bold_lit (g : Int) (X : World) : Calls Try.prog 19 #[.slice (some ⟨X.heap.size, 0, none⟩) 4 4, .int .i64 g] (X.alloc (.cells #[.int .i64 1, .int .i64 2, .int .i64 4, .int .i64 8] 3)) fun e w' => e = .returned (.bool (boG g)) ∧ Below X.heap.size X w' :=
  (contains_any _ [1, 2, 4, 8] g _ (four_ints X) (by simp)).mono fun e w' ⟨h1, h2⟩ => ⟨by rw [h1, ix_four], h2 ▸ (Below.refl _ _).alloc (Nat.le_refl _) _⟩
set_option maxRecDepth 100000 in
set_option maxHeartbeats 2000000 in
theorem boldI_ret (i g n d : Int) (w : World) : Calls Try.prog 6 #[.int .i64 i, .int .i64 g, .agg #[.int .i64 n, .int .i64 d]] w (Ret w (ratRet (bcP i g n d) (bcQ i g n d) (bcOk i g n d))) := by
  have HA : Hid (∀ w, Calls Try.prog 18 #[.int .i64 i, .int .i64 g, .agg #[.int .i64 n, .int .i64 d]] w (Ret w (.bool (askB i g n d)))) := Lib.hid fun w => isPlay_ret i g n d w
  have HC := Lib.hid (bold_lit g)
  have HX := Lib.hid (RZ.start w n d)
  rcases Bool.eq_false_or_eq_true (askB i g n d) with ha | ha
  · rcases Bool.eq_false_or_eq_true (boG g) with hb | hb
    · have hok : bcOk i g n d = true := by unfold bcOk; rw [ha, hb]; rfl
      obtain ⟨bg, bi, bd, bn⟩ := askB_of ha
      have hg : g = 1 ∨ g = 2 ∨ g = 4 ∨ g = 8 := by
        unfold boG at hb
        simp only [Bool.or_eq_true, beq_iff_eq] at hb
        omega
      have hbo := bo_rs ha hg
      have e1 : bcP i g n d = numZ (bI g n d 3 i) (d ^ 3) := by unfold bcP; rw [if_pos hok, hbo.1]
      have e2 : bcQ i g n d = denZ (bI g n d 3 i) (d ^ 3) := by unfold bcQ; rw [if_pos hok, hbo.2]
      have hdv : g ∣ i * 2 ^ 3 := by
        rcases hg with hg | hg | hg | hg
        · exact ⟨i * 8, by rw [hg]; omega⟩
        · exact ⟨i * 4, by rw [hg]; omega⟩
        · exact ⟨i * 2, by rw [hg]; omega⟩
        · exact ⟨i, by rw [hg]; omega⟩
      have HBP : Hid (∀ w, Calls Try.prog 21 #[.int .i64 i, .int .i64 g, .agg #[.int .i64 n, .int .i64 d], .int .i64 3] w (Ret w (.int .i64 (bI g n d 3 i)))) := Lib.hid fun w => boldParts_any g n d (by omega) (by omega) (by omega) (by omega) 3 i 3 w (by omega) (by omega) hdv rfl
      have HPW : Hid (∀ w, Calls Try.prog 22 #[.int .i64 d, .int .i64 3] w fun e w' => e = .returned (.int .i64 (d ^ 3)) ∧ w = w') := Lib.hid fun w => powerN_any d 3 w (by omega) (by omega)
      have v1 := bI_bd (g := g) (n := n) (d := d) (by omega) (by omega) (by omega) 3 i
      have v2 := pow3 (d := d) (by omega) (r := 3) (by omega)
      have v3 := pow_pos1 (x := d) (by omega) 3
      rw [e1, e2, hok]
      rw [ha] at HA
      rw [hb] at HC
      clear e1 e2 hbo hok ha hb hdv hg
      generalize bI g n d 3 i = p at *
      generalize d ^ 3 = q at *
      have HR : Hid (∀ w, Calls Try.prog 20 #[.int .i64 p, .int .i64 q] w (Ret w (.agg #[.int .i64 (numZ p q), .int .i64 (denZ p q)]))) := Lib.hid fun w => lowZ_any p q w (by omega) (by omega)
      generalize numZ p q = x at *
      generalize denZ p q = y at *
      go_enter Try.func6, Try.ntmps6
      go_wp2_with (first | (go_at_call 18; refine (HA.out _).mono ?_; rintro e wa ⟨rfl, hba⟩; have hx := HX.out.kept hba; have r0 := hx.r.1; have r1 := hx.r.2.1; have y0 := hx.z.c0; have y1 := hx.z.c1; have y2 := hx.z.f0; have y3 := hx.z.f1; have lt1 := hx.z.lt; have HX2 := Lib.hid hx; clear hx hba) | (go_at_call 19; refine (HC.out _).mono ?_; rintro e wb ⟨rfl, hbb⟩; have hx := HX2.out.kept hbb; have q4 := hx.r.1; have q5 := hx.r.2.1; have q0 := hx.z.c0; have q1 := hx.z.c1; have q2 := hx.z.f0; have q3 := hx.z.f1; have lt2 := hx.z.lt; have HX3 := Lib.hid hx; clear hx hbb r0 r1 y0 y1 y2 y3))
      have HRA := Lib.hid ((RA.of HX3.out).kept (Below.refl _ _).drew)
      go_region_held3 (fun X => X.cell? ⟨w.heap.size, 0, none⟩ = some (.int .i64 n) ∧ X.cell? ⟨w.heap.size, 1, none⟩ = some (.int .i64 d) ∧ RA w n d X) (first | exact ⟨HRA.out.r.1, HRA.out.r.2.1, HRA.out⟩ | assumption | exact raKeep (by assumption) (by assumption) | exact raStore _ _ (by assumption)) (first | (go_at_call 21; refine (HBP.out _).mono ?_; rintro e w4 ⟨rfl, hb4⟩) | (go_at_call 22; refine (HPW.out _).mono ?_; rintro e w' ⟨rfl, rfl⟩) | (go_at_call 20; refine (HR.out _).mono ?_; rintro e wz ⟨rfl, hbz⟩; have hz := (RA.kept (raOf (by assumption)) hbz); obtain ⟨u0, s0⟩ := hz.c0; obtain ⟨u1, s1⟩ := hz.c1; have s2 := hz.f0; have s3 := hz.f1; have HZ := Lib.hid hz; clear hz))
      all_goals
        go_wp2_with fail
        obtain ⟨z0, z1, hzb⟩ := HZ.out.done x y
        refine bodyPost_ret (v := ratRet x y true) ?_ rfl ⟨rfl, hzb.r.2.2.2⟩
        clear hzb
        generalize (wz.setCell ⟨w.heap.size + 1, 0, none⟩ (.int .i64 x)).setCell ⟨w.heap.size + 1, 1, none⟩ (.int .i64 y) = WF at *
        simp [results, Try.f6, go_sem, z0, z1]
    · have hok : bcOk i g n d = false := by unfold bcOk; rw [ha, hb]; rfl
      have e1 : bcP i g n d = 0 := by unfold bcP; rw [hok]; rfl
      have e2 : bcQ i g n d = 0 := by unfold bcQ; rw [hok]; rfl
      rw [e1, e2, hok]
      rw [ha] at HA
      rw [hb] at HC
      clear hok e1 e2 ha hb
      go_enter Try.func6, Try.ntmps6
      go_wp2_with (first | (go_at_call 18; refine (HA.out _).mono ?_; rintro e wa ⟨rfl, hba⟩; have hx := HX.out.kept hba; have r0 := hx.r.1; have r1 := hx.r.2.1; have y0 := hx.z.c0; have y1 := hx.z.c1; have y2 := hx.z.f0; have y3 := hx.z.f1; have lt1 := hx.z.lt; have HX2 := Lib.hid hx; clear hx hba) | (go_at_call 19; refine (HC.out _).mono ?_; rintro e wb ⟨rfl, hbb⟩; have hx := HX2.out.kept hbb; have q4 := hx.r.1; have q5 := hx.r.2.1; have q0 := hx.z.c0; have q1 := hx.z.c1; have q2 := hx.z.f0; have q3 := hx.z.f1; have lt2 := hx.z.lt; have HX3 := Lib.hid hx; clear hx hbb r0 r1 y0 y1 y2 y3))
      obtain ⟨z0, z1, hzb⟩ := HX3.out.z.done 0 0
      refine bodyPost_ret (v := ratRet 0 0 false) ?_ rfl ⟨rfl, hzb⟩
      clear hzb
      generalize (wb.setCell ⟨w.heap.size + 1, 0, none⟩ (.int .i64 0)).setCell ⟨w.heap.size + 1, 1, none⟩ (.int .i64 0) = WF at *
      simp [results, Try.f6, go_sem, z0, z1]
  · have hok : bcOk i g n d = false := by unfold bcOk; rw [ha]; rfl
    have e1 : bcP i g n d = 0 := by unfold bcP; rw [hok]; rfl
    have e2 : bcQ i g n d = 0 := by unfold bcQ; rw [hok]; rfl
    rw [e1, e2, hok]
    rw [ha] at HA
    clear hok e1 e2 ha
    go_enter Try.func6, Try.ntmps6
    go_wp2_with (go_at_call 18; refine (HA.out _).mono ?_; rintro e wa ⟨rfl, hba⟩; have hx := HX.out.kept hba; have r0 := hx.r.1; have r1 := hx.r.2.1; have y0 := hx.z.c0; have y1 := hx.z.c1; have y2 := hx.z.f0; have y3 := hx.z.f1; have lt1 := hx.z.lt; have HX2 := Lib.hid hx; clear hx hba)
    obtain ⟨z0, z1, hzb⟩ := HX2.out.z.done 0 0
    refine bodyPost_ret (v := ratRet 0 0 false) ?_ rfl ⟨rfl, hzb⟩
    clear hzb
    generalize (wa.setCell ⟨w.heap.size + 1, 0, none⟩ (.int .i64 0)).setCell ⟨w.heap.size + 1, 1, none⟩ (.int .i64 0) = WF at *
    simp [results, Try.f6, go_sem, z0, z1]
end Go.Proofs.Ythgblfldncidnaa

/- The program's IsDegrees (with slices.Min and Max), ExcessOf, IsForest, isTree. -/
namespace Go.Proofs.Ythgblfldncidnaa
open Go.RowKit
set_option linter.unusedVariables false
def mnT (xs : List Int) : Nat → Int
  | 0 => xs.getD 0 0
  | k + 1 => min (mnT xs k) (xs.getD (k + 1) 0)
def mxT (xs : List Int) : Nat → Int
  | 0 => xs.getD 0 0
  | k + 1 => max (mxT xs k) (xs.getD (k + 1) 0)
theorem mnT_iff (xs : List Int) (a : Int) : ∀ k, a ≤ mnT xs k ↔ ∀ j, j ≤ k → a ≤ xs.getD j 0
  | 0 => by
    rw [mnT]
    exact ⟨fun h j hj => by rw [show j = 0 by omega]; exact h, fun h => h 0 (Nat.le_refl _)⟩
  | k + 1 => by
    rw [mnT, Int.le_min, mnT_iff xs a k]
    exact ⟨fun h j hj => by
      by_cases e : j = k + 1
      · rw [e]; exact h.2
      · exact h.1 j (by omega), fun h => ⟨fun j hj => h j (by omega), h _ (Nat.le_refl _)⟩⟩
theorem mxT_iff (xs : List Int) (a : Int) : ∀ k, mxT xs k ≤ a ↔ ∀ j, j ≤ k → xs.getD j 0 ≤ a
  | 0 => by
    rw [mxT]
    exact ⟨fun h j hj => by rw [show j = 0 by omega]; exact h, fun h => h 0 (Nat.le_refl _)⟩
  | k + 1 => by
    rw [mxT, Int.max_le, mxT_iff xs a k]
    exact ⟨fun h j hj => by
      by_cases e : j = k + 1
      · rw [e]; exact h.2
      · exact h.1 j (by omega), fun h => ⟨fun j hj => h j (by omega), h _ (Nat.le_refl _)⟩⟩
theorem degB_iff (xs : List Int) : degB xs = true ↔ (1 ≤ xs.length ∧ xs.length ≤ 16) ∧ ∀ k, k < xs.length → 0 ≤ xs.getD k 0 ∧ xs.getD k 0 ≤ 16 := by
  refine ⟨degB_of, fun ⟨h1, h2⟩ => ?_⟩
  unfold degB allB inBd
  rw [Bool.and_eq_true, List.all_eq_true]
  refine ⟨by simp; omega, fun x hx => ?_⟩
  obtain ⟨i, hi, rfl⟩ := List.mem_iff_getElem.1 hx
  have := h2 i hi
  rw [List.getD_eq_getElem?_getD, List.getElem?_eq_getElem hi] at this
  simpa using this
theorem degB_mm (xs : List Int) (h : 1 ≤ xs.length ∧ xs.length ≤ 16) : degB xs = (decide (0 ≤ mnT xs (xs.length - 1)) && decide (mxT xs (xs.length - 1) ≤ 16)) := by
  rw [Bool.eq_iff_iff, Bool.and_eq_true, decide_eq_true_iff, decide_eq_true_iff, degB_iff, mnT_iff, mxT_iff]
  exact ⟨fun ⟨_, h2⟩ => ⟨fun j hj => (h2 j (by omega)).1, fun j hj => (h2 j (by omega)).2⟩, fun ⟨h1, h2⟩ => ⟨h, fun k hk => ⟨h1 k (by omega), h2 k (by omega)⟩⟩⟩
theorem degB_out (xs : List Int) (h : ¬ (1 ≤ xs.length ∧ xs.length ≤ 16)) : degB xs = false := by
  rw [Bool.eq_false_iff]
  intro e
  exact h (degB_of e).1
def treeB (xs : List Int) : Bool := forV xs && decide (exc xs = 1)
end Go.Proofs.Ythgblfldncidnaa
