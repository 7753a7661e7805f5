/- The model's MeanGames. -/
import Derived.Test.YtfimcadnlhohlaaRzS
namespace Go.Proofs.Ytfimcadnlhohlaa
open Go.RowKit
set_option linter.unusedVariables false
def mgN (i g n d : Int) : Int := (g * winP i g n d - i * winQ i g n d) * d
def mgD (i g n d : Int) : Int := winQ i g n d * (n - (d - n))
def mgP (i g n d : Int) : Int := if askB i g n d = true then (if n = d - n then i * (g - i) else if mgD i g n d < 0 then numZ (-mgN i g n d) (-mgD i g n d) else numZ (mgN i g n d) (mgD i g n d)) else 0
def mgQ (i g n d : Int) : Int := if askB i g n d = true then (if n = d - n then 1 else if mgD i g n d < 0 then denZ (-mgN i g n d) (-mgD i g n d) else denZ (mgN i g n d) (mgD i g n d)) else 0
set_option maxRecDepth 100000 in
set_option maxHeartbeats 2000000 in
theorem specMeanGames_ret (i g n d : Int) (w : World) : Calls Try.prog 26 #[.int .i64 i, .int .i64 g, .agg #[.int .i64 n, .int .i64 d]] w (Ret w (ratRet (mgP i g n d) (mgQ i g n d) (askB i g n d))) := by
  have HA : Hid (∀ w, Calls Try.prog 56 #[.int .i64 i, .int .i64 g, .agg #[.int .i64 n, .int .i64 d]] w (Ret w (.bool (askB i g n d)))) := Lib.hid fun w => ruAsked_any i g n d w
  have HX := Lib.hid (RZ.start w n d)
  rcases Bool.eq_false_or_eq_true (askB i g n d) with ha | ha
  · have HWN : Hid (∀ w, Calls Try.prog 57 #[.int .i64 i, .int .i64 g, .agg #[.int .i64 n, .int .i64 d]] w (Ret w (.agg #[.int .i64 (winP i g n d), .int .i64 (winQ i g n d)]))) := Lib.hid fun w => ruWin_any i g n d w ha
    obtain ⟨bp, bq, _⟩ := win_bd ha
    obtain ⟨bg, bi, bd, bn⟩ := askB_of ha
    unfold mgP mgQ
    simp only [if_pos ha]
    rw [ha] at HA ⊢
    clear ha
    by_cases hc : n = d - n
    · simp only [if_pos hc]
      have k1 : (n == d - n) = true := by rw [beq_iff_eq]; exact hc
      have m1 := mul_le_of' (x := i) (y := g - i) (A := 12) (B := 12) (by omega) (by omega)
      clear hc
      generalize winP i g n d = p at *
      generalize winQ i g n d = q at *
      go_enter Try.func26, Try.ntmps26
      go_wp2_with (go_at_call 56; refine (HA.out _).mono ?_; rintro e wa ⟨rfl, hba⟩; have hx := HX.out.kept hba; have r0 := hx.r.1; have r1 := hx.r.2.1; have y0 := hx.z.c0; have y1 := hx.z.c1; have y2 := hx.z.f0; have y3 := hx.z.f1; have lt1 := hx.z.lt; have HX2 := Lib.hid hx; clear hx hba)
      go_quiet (fail)
      go_wp2_with fail
      obtain ⟨z0, z1, hzb⟩ := (HX2.out.kept (below_drewN (Below.refl _ _) nq)).z.done (i * (g - i)) 1
      refine bodyPost_ret (v := ratRet (i * (g - i)) 1 true) ?_ rfl ⟨rfl, hzb⟩
      clear hzb
      generalize ((wa.drewN nq).setCell ⟨w.heap.size + 1, 0, none⟩ (.int .i64 (i * (g - i)))).setCell ⟨w.heap.size + 1, 1, none⟩ (.int .i64 1) = WF at *
      simp [results, Try.f26, go_sem, z0, z1]
    · simp only [if_neg hc]
      have k1 : (n == d - n) = false := beq_eq_false_iff_ne.2 hc
      unfold mgN mgD
      generalize winP i g n d = p at *
      generalize winQ i g n d = q at *
      have m1 := mul_le_of' (x := g) (y := p) (A := 12) (B := 244140625) (by omega) (by omega)
      have m2 := mul_le_of' (x := i) (y := q) (A := 12) (B := 244140625) (by omega) (by omega)
      have m3 : -17578125000 ≤ (g * p - i * q) * d ∧ (g * p - i * q) * d ≤ 17578125000 := by
        have : ((g * p - i * q) * d).natAbs ≤ 2929687500 * 6 := by
          rw [Int.natAbs_mul]
          exact Nat.mul_le_mul (by omega) (by omega)
        omega
      have m4 : -1464843750 ≤ q * (n - (d - n)) ∧ q * (n - (d - n)) ≤ 1464843750 := by
        have : (q * (n - (d - n))).natAbs ≤ 244140625 * 6 := by
          rw [Int.natAbs_mul]
          exact Nat.mul_le_mul (by omega) (by omega)
        omega
      have m5 : q * (n - (d - n)) ≠ 0 := by
        intro h
        rcases Int.mul_eq_zero.1 h with h | h <;> omega
      have k2 := IntWalk.i64_in (g * p) (by omega)
      have k3 := IntWalk.i64_in (i * q) (by omega)
      have k4 := IntWalk.i64_in (g * p - i * q) (by omega)
      have k5 := IntWalk.i64_in ((g * p - i * q) * d) (by omega)
      have k6 := IntWalk.i64_in (n - (d - n)) (by omega)
      have k7 := IntWalk.i64_in (q * (n - (d - n))) (by omega)
      have k8 := IntWalk.i64_in (d - n) (by omega)
      by_cases hneg : q * (n - (d - n)) < 0
      · simp only [if_pos hneg]
        have HR : Hid (∀ w, Calls Try.prog 62 #[.int .i64 (-((g * p - i * q) * d)), .int .i64 (-(q * (n - (d - n))))] w (Ret w (.agg #[.int .i64 (numZ (-((g * p - i * q) * d)) (-(q * (n - (d - n))))), .int .i64 (denZ (-((g * p - i * q) * d)) (-(q * (n - (d - n)))))]))) := Lib.hid fun w => ruRatioZ_any _ _ w (by omega) (by omega)
        generalize numZ (-((g * p - i * q) * d)) (-(q * (n - (d - n)))) = x at *
        generalize denZ (-((g * p - i * q) * d)) (-(q * (n - (d - n)))) = y at *
        clear hc m5
        go_enter Try.func26, Try.ntmps26
        go_wp2_with (go_at_call 56; refine (HA.out _).mono ?_; rintro e wa ⟨rfl, hba⟩; have hx := HX.out.kept hba; have r0 := hx.r.1; have r1 := hx.r.2.1; have y0 := hx.z.c0; have y1 := hx.z.c1; have y2 := hx.z.f0; have y3 := hx.z.f1; have lt1 := hx.z.lt; have HX2 := Lib.hid hx; clear hx hba)
        go_quiet (fail)
        go_wp2_with (go_at_call 57; refine (HWN.out _).mono ?_; rintro e ww ⟨rfl, hbw⟩; have hx := (HX2.out.kept (below_drewN (Below.refl _ _) nq)).kept hbw; have q0 := hx.z.c0; have q1 := hx.z.c1; have q2 := hx.z.f0; have q3 := hx.z.f1; have q4 := hx.r.1; have q5 := hx.r.2.1; have lt2 := hx.z.lt; have HX3 := Lib.hid hx; clear hx hbw r0 r1 y0 y1 y2 y3)
        refine wp_nameR (fun X => X.cell? ⟨ww.heap.size, 0, none⟩ = some (.int .i64 p) ∧ X.cell? ⟨ww.heap.size, 1, none⟩ = some (.int .i64 q) ∧ RZ w n d X) ⟨by simp [go_sem], by simp [go_sem], HX3.out.kept ((Below.refl _ _).alloc (Nat.le_refl _) _)⟩ ?_; rintro X ⟨t0, t1, hx⟩; clear q0 q1 q2 q3 q4 q5; have q4 := hx.r.1; have q5 := hx.r.2.1; have HX5 := Lib.hid hx; clear hx
        go_quiet (fail)
        go_wp2_with (go_at_call 62; refine (HR.out _).mono ?_; rintro e wz ⟨rfl, hbz⟩; have hx := (HX5.out.kept (below_drewN (Below.refl _ _) _)).kept hbz; have s0 := hx.z.c0; have s1 := hx.z.c1; have s2 := hx.z.f0; have s3 := hx.z.f1; have HX4 := Lib.hid hx; clear hx hbz q4 q5 t0 t1)
        obtain ⟨z0, z1, hzb⟩ := HX4.out.z.done x y
        refine bodyPost_ret (v := ratRet x y true) ?_ rfl ⟨rfl, hzb⟩
        clear hzb
        generalize (wz.setCell ⟨w.heap.size + 1, 0, none⟩ (.int .i64 x)).setCell ⟨w.heap.size + 1, 1, none⟩ (.int .i64 y) = WF at *
        simp [results, Try.f26, go_sem, z0, z1]
      · simp only [if_neg hneg]
        have HR : Hid (∀ w, Calls Try.prog 62 #[.int .i64 ((g * p - i * q) * d), .int .i64 (q * (n - (d - n)))] w (Ret w (.agg #[.int .i64 (numZ ((g * p - i * q) * d) (q * (n - (d - n)))), .int .i64 (denZ ((g * p - i * q) * d) (q * (n - (d - n))))]))) := Lib.hid fun w => ruRatioZ_any _ _ w (by omega) (by omega)
        generalize numZ ((g * p - i * q) * d) (q * (n - (d - n))) = x at *
        generalize denZ ((g * p - i * q) * d) (q * (n - (d - n))) = y at *
        clear hc m5
        go_enter Try.func26, Try.ntmps26
        go_wp2_with (go_at_call 56; refine (HA.out _).mono ?_; rintro e wa ⟨rfl, hba⟩; have hx := HX.out.kept hba; have r0 := hx.r.1; have r1 := hx.r.2.1; have y0 := hx.z.c0; have y1 := hx.z.c1; have y2 := hx.z.f0; have y3 := hx.z.f1; have lt1 := hx.z.lt; have HX2 := Lib.hid hx; clear hx hba)
        go_quiet (fail)
        go_wp2_with (go_at_call 57; refine (HWN.out _).mono ?_; rintro e ww ⟨rfl, hbw⟩; have hx := (HX2.out.kept (below_drewN (Below.refl _ _) nq)).kept hbw; have q0 := hx.z.c0; have q1 := hx.z.c1; have q2 := hx.z.f0; have q3 := hx.z.f1; have q4 := hx.r.1; have q5 := hx.r.2.1; have lt2 := hx.z.lt; have HX3 := Lib.hid hx; clear hx hbw r0 r1 y0 y1 y2 y3)
        refine wp_nameR (fun X => X.cell? ⟨ww.heap.size, 0, none⟩ = some (.int .i64 p) ∧ X.cell? ⟨ww.heap.size, 1, none⟩ = some (.int .i64 q) ∧ RZ w n d X) ⟨by simp [go_sem], by simp [go_sem], HX3.out.kept ((Below.refl _ _).alloc (Nat.le_refl _) _)⟩ ?_; rintro X ⟨t0, t1, hx⟩; clear q0 q1 q2 q3 q4 q5; have q4 := hx.r.1; have q5 := hx.r.2.1; have HX5 := Lib.hid hx; clear hx
        go_quiet (fail)
        go_wp2_with (go_at_call 62; refine (HR.out _).mono ?_; rintro e wz ⟨rfl, hbz⟩; have hx := (HX5.out.kept (below_drewN (Below.refl _ _) _)).kept hbz; have s0 := hx.z.c0; have s1 := hx.z.c1; have s2 := hx.z.f0; have s3 := hx.z.f1; have HX4 := Lib.hid hx; clear hx hbz q4 q5 t0 t1)
        obtain ⟨z0, z1, hzb⟩ := HX4.out.z.done x y
        refine bodyPost_ret (v := ratRet x y true) ?_ rfl ⟨rfl, hzb⟩
        clear hzb
        generalize (wz.setCell ⟨w.heap.size + 1, 0, none⟩ (.int .i64 x)).setCell ⟨w.heap.size + 1, 1, none⟩ (.int .i64 y) = WF at *
        simp [results, Try.f26, go_sem, z0, z1]
  · have e1 : mgP i g n d = 0 := by unfold mgP; rw [ha]; rfl
    have e2 : mgQ i g n d = 0 := by unfold mgQ; rw [ha]; rfl
    rw [e1, e2]
    rw [ha] at HA ⊢
    clear e1 e2 ha
    go_enter Try.func26, Try.ntmps26
    go_wp2_with (go_at_call 56; refine (HA.out _).mono ?_; rintro e wa ⟨rfl, hba⟩; have hx := HX.out.kept hba; have r0 := hx.r.1; have r1 := hx.r.2.1; have y0 := hx.z.c0; have y1 := hx.z.c1; have y2 := hx.z.f0; have y3 := hx.z.f1; have lt1 := hx.z.lt; have HX2 := Lib.hid hx; clear hx hba)
    obtain ⟨z0, z1, hzb⟩ := HX2.out.z.done 0 0
    refine bodyPost_ret (v := ratRet 0 0 false) ?_ rfl ⟨rfl, hzb⟩
    clear hzb
    generalize (wa.setCell ⟨w.heap.size + 1, 0, none⟩ (.int .i64 0)).setCell ⟨w.heap.size + 1, 1, none⟩ (.int .i64 0) = WF at *
    simp [results, Try.f26, go_sem, z0, z1]
end Go.Proofs.Ytfimcadnlhohlaa
