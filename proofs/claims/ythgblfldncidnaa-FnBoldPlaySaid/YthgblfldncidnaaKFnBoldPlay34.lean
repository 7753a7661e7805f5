/- Pack 34 of what FnBoldPlay needs: EvI, MgI. -/
import Derived.Test.YthgblfldncidnaaKFnBoldPlay33
import Derived.Deep.RegionLaw
import Derived.ChangeKeysEq
import Derived.Deep.CutBlock
import Derived.Deep.DeepCutAuto
/- The program's EverRuined, FairVisits. -/
namespace Go.Proofs.Ythgblfldncidnaa
open Go.RowKit
set_option linter.unusedVariables false
theorem numZ_self {x : Int} (h : 0 < x) : numZ x x = 1 ∧ denZ x x = 1 := by
  unfold numZ denZ
  rw [Nat.gcd_self, show ((x.natAbs : Nat) : Int) = x by omega, Int.tdiv_self (by omega)]
  exact ⟨rfl, rfl⟩
set_option maxRecDepth 100000 in
set_option maxHeartbeats 1000000 in
theorem fairI_ret (i j g : Int) (w : World) : Calls Try.prog 10 #[.int .i64 i, .int .i64 j, .int .i64 g] w (Ret w (ratRet (fvP i j g) (fvQ i j g) (fvOk i j g))) := by
  obtain ⟨W, hW⟩ : ∃ W, W = w.alloc (.cells #[.int .i64 0, .int .i64 0] 25) := ⟨_, rfl⟩
  have hz : w.heap.size + 1 = W.heap.size := by simp [hW]
  have hx : ZBox w w.heap.size W := by rw [hW]; exact ZBox.first w
  have HX := Lib.hid hx
  have HW := Lib.hid hW
  have HZ := Lib.hid hz
  clear hx hz hW
  have H1 : Hid (∀ X : World, Calls Try.prog 30 #[.int .i64 g, .slice (some ⟨X.heap.size, 0, none⟩) 2 2] (X.alloc (.cells #[.int .i64 i, .int .i64 j] 3)) fun e w' => e = .returned (.bool (fvOk i j g)) ∧ Below X.heap.size X w') := Lib.hid (by
    have := play_lit2 g i j
    unfold fvOk
    simpa only [Bool.and_assoc] using this)
  rcases Bool.eq_false_or_eq_true (fvOk i j g) with hok | hok
  · have hb : (1 ≤ g ∧ g ≤ 12) ∧ (1 ≤ i ∧ i ≤ g - 1) ∧ (1 ≤ j ∧ j ≤ g - 1) := by
      unfold fvOk inBd at hok
      simp only [Bool.and_eq_true, decide_eq_true_eq] at hok
      exact ⟨hok.1.1, hok.1.2, hok.2⟩
    obtain ⟨hg, hi, hj⟩ := hb
    have e0 : fvN i j g = 2 * min i j * (g - max i j) := by
      unfold fvN
      rw [show (if j < i then j else i) = min i j by split <;> omega, show (if i < j then j else i) = max i j by split <;> omega]
    have e1 : fvP i j g = numZ (2 * min i j * (g - max i j)) g := by unfold fvP; rw [if_pos hok, e0]
    have e2 : fvQ i j g = denZ (2 * min i j * (g - max i j)) g := by unfold fvQ; rw [if_pos hok, e0]
    have m1 := mul_le_of' (x := 2 * min i j) (y := g - max i j) (A := 24) (B := 12) (by omega) (by omega)
    have HR : Hid (∀ w, Calls Try.prog 20 #[.int .i64 (2 * min i j * (g - max i j)), .int .i64 g] w (Ret w (.agg #[.int .i64 (numZ (2 * min i j * (g - max i j)) g), .int .i64 (denZ (2 * min i j * (g - max i j)) g)]))) := Lib.hid fun w => lowZ_any _ _ w (by omega) (by omega)
    rw [e1, e2]
    rw [hok] at H1 ⊢
    have m2 : 0 ≤ 2 * min i j ∧ 2 * min i j ≤ 24 := by omega
    have m3 : 0 ≤ g - max i j ∧ g - max i j ≤ 12 := by omega
    have m4 : 0 ≤ min i j ∧ min i j ≤ 12 := by omega
    have m5 : 0 ≤ max i j ∧ max i j ≤ 12 := by omega
    generalize numZ (2 * min i j * (g - max i j)) g = x at *
    generalize denZ (2 * min i j * (g - max i j)) g = y at *
    clear e0 e1 e2 hok
    go_enter Try.func10, Try.ntmps10
    go_wp2_with (first | (rw [← HW.out]; rw [HZ.out]; go_at_call 30; refine (H1.out _).mono ?_; rintro e w1 ⟨rfl, hb1⟩; have hx := HX.out.kept hb1; have y0 := hx.c0; have y1 := hx.c1; have y2 := hx.f0; have y3 := hx.f1; have lt1 := hx.lt; have HX2 := Lib.hid hx; clear hx hb1) | (go_at_call 20; refine (HR.out _).mono ?_; rintro e wz ⟨rfl, hbz⟩; have hx := HX2.out.kept hbz; have s0 := hx.c0; have s1 := hx.c1; have s2 := hx.f0; have s3 := hx.f1; have HX3 := Lib.hid hx; clear hx hbz y0 y1 y2 y3))
    obtain ⟨z0, z1, hzb⟩ := HX3.out.done x y
    refine bodyPost_ret (v := ratRet x y true) ?_ rfl ⟨rfl, hzb⟩
    clear hzb
    generalize (wz.setCell ⟨w.heap.size, 0, none⟩ (.int .i64 x)).setCell ⟨w.heap.size, 1, none⟩ (.int .i64 y) = WF at *
    simp [results, Try.f10, go_sem, z0, z1]
  · have e1 : fvP i j g = 0 := by unfold fvP; rw [hok]; rfl
    have e2 : fvQ i j g = 0 := by unfold fvQ; rw [hok]; rfl
    rw [e1, e2]
    rw [hok] at H1 ⊢
    clear e1 e2 hok
    go_enter Try.func10, Try.ntmps10
    go_wp2_with (rw [← HW.out]; rw [HZ.out]; go_at_call 30; refine (H1.out _).mono ?_; rintro e w1 ⟨rfl, hb1⟩; have hx := HX.out.kept hb1; have y0 := hx.c0; have y1 := hx.c1; have y2 := hx.f0; have y3 := hx.f1; have lt1 := hx.lt; have HX2 := Lib.hid hx; clear hx hb1)
    obtain ⟨z0, z1, hzb⟩ := HX2.out.done 0 0
    refine bodyPost_ret (v := ratRet 0 0 false) ?_ rfl ⟨rfl, hzb⟩
    clear hzb
    generalize (w1.setCell ⟨w.heap.size, 0, none⟩ (.int .i64 0)).setCell ⟨w.heap.size, 1, none⟩ (.int .i64 0) = WF at *
    simp [results, Try.f10, go_sem, z0, z1]
end Go.Proofs.Ythgblfldncidnaa

/- The program's MeanGames. -/
namespace Go.Proofs.Ythgblfldncidnaa
open Go.RowKit
set_option linter.unusedVariables false
theorem rmMk {w X : World} {n d p q : Int} {b : Nat} (h : RW w n d b p q X) : X.cell? ⟨w.heap.size, 0, none⟩ = some (.int .i64 n) ∧ X.cell? ⟨w.heap.size, 1, none⟩ = some (.int .i64 d) ∧ X.cell? ⟨b, 0, none⟩ = some (.int .i64 p) ∧ X.cell? ⟨b, 1, none⟩ = some (.int .i64 q) ∧ RW w n d b p q X := ⟨h.ra.r.1, h.ra.r.2.1, h.qb.c0, h.qb.c1, h⟩
theorem rmKeep {w X X' : World} {n d p q : Int} {b : Nat} (h : X.cell? ⟨w.heap.size, 0, none⟩ = some (.int .i64 n) ∧ X.cell? ⟨w.heap.size, 1, none⟩ = some (.int .i64 d) ∧ X.cell? ⟨b, 0, none⟩ = some (.int .i64 p) ∧ X.cell? ⟨b, 1, none⟩ = some (.int .i64 q) ∧ RW w n d b p q X) (hb : Below X.heap.size X X') :
    X'.cell? ⟨w.heap.size, 0, none⟩ = some (.int .i64 n) ∧ X'.cell? ⟨w.heap.size, 1, none⟩ = some (.int .i64 d) ∧ X'.cell? ⟨b, 0, none⟩ = some (.int .i64 p) ∧ X'.cell? ⟨b, 1, none⟩ = some (.int .i64 q) ∧ RW w n d b p q X' := rmMk (h.2.2.2.2.kept hb)
theorem rmOf {w X : World} {n d p q : Int} {b : Nat} (h : X.cell? ⟨w.heap.size, 0, none⟩ = some (.int .i64 n) ∧ X.cell? ⟨w.heap.size, 1, none⟩ = some (.int .i64 d) ∧ X.cell? ⟨b, 0, none⟩ = some (.int .i64 p) ∧ X.cell? ⟨b, 1, none⟩ = some (.int .i64 q) ∧ RW w n d b p q X) : RW w n d b p q X := h.2.2.2.2
theorem maxN_bd (x : Int) : 0 ≤ maxN x ∧ maxN x ≤ x.natAbs ∧ (x ≠ 0 → 0 < maxN x) := by
  unfold maxN
  omega
set_option maxRecDepth 100000 in
set_option maxHeartbeats 2000000 in
theorem meanGamesI_ret (i g n d : Int) (w : World) : Calls Try.prog 13 #[.int .i64 i, .int .i64 g, .agg #[.int .i64 n, .int .i64 d]] w (Ret w (ratRet (mgP i g n d) (mgQ i g n d) (askB i g n d))) := by
  have HWN : Hid (∀ w, Calls Try.prog 32 #[.int .i64 i, .int .i64 g, .agg #[.int .i64 n, .int .i64 d]] w (Ret w (ratRet (mhP i g n d) (mhQ i g n d) (askB i g n d)))) := Lib.hid fun w => meanHeldI_ret i g n d w
  have HX := Lib.hid (RZ.start w n d)
  rcases Bool.eq_false_or_eq_true (askB i g n d) with ha | ha
  · obtain ⟨bp, bq, _⟩ := win_bd ha
    obtain ⟨bg, bi, bd, bn⟩ := askB_of ha
    have hb : ruB n d = true := by
      unfold askB at ha
      rw [Bool.and_eq_true] at ha
      exact ha.2
    have w1 : mhP i g n d = numZ (g * winP i g n d) (winQ i g n d) := by unfold mhP; rw [if_pos ha]
    have w2 : mhQ i g n d = denZ (g * winP i g n d) (winQ i g n d) := by unfold mhQ; rw [if_pos ha]
    have m1 := mul_le_of' (x := g) (y := winP i g n d) (A := 12) (B := 244140625) (by omega) (by omega)
    have f1 := numZ_bd (n := g * winP i g n d) (d := winQ i g n d) (B := 2929687500) (by omega)
    have f2 := denZ_bd (n := g * winP i g n d) (d := winQ i g n d) bq.1
    rw [ha, w1, w2] at HWN
    by_cases hc : n = d - n
    · have e1 : mgP i g n d = i * (g - i) := by unfold mgP; rw [if_pos ha, if_pos hc]
      have e2 : mgQ i g n d = 1 := by unfold mgQ; rw [if_pos ha, if_pos hc]
      obtain ⟨rfl, rfl⟩ := half_of hb hc
      rw [e1, e2, ha]
      have m2 := mul_le_of' (x := i) (y := g - i) (A := 12) (B := 12) (by omega) (by omega)
      clear e1 e2 ha hb hc w1 w2 m1
      generalize numZ (g * winP i g 1 2) (winQ i g 1 2) = p at *
      generalize denZ (g * winP i g 1 2) (winQ i g 1 2) = q at *
      go_enter Try.func13, Try.ntmps13
      go_upto_region 4 with (go_at_call 32; refine (HWN.out _).mono ?_; rintro e ww ⟨rfl, hbw⟩; have hx := HX.out.kept hbw; have HX2 := Lib.hid hx; have r0 := hx.r.1; have r1 := hx.r.2.1; have y0 := hx.z.c0; have y1 := hx.z.c1; have y2 := hx.z.f0; have y3 := hx.z.f1; have lt1 := hx.z.lt; clear hx hbw)
      refine wp_nameR (fun X => RW w 1 2 ww.heap.size p q X) (RW.start HX2.out p q) ?_
      rintro X hX
      clear r0 r1 y0 y1 y2 y3
      have a0 := hX.ra.r.1
      have a1 := hX.ra.r.2.1
      obtain ⟨v0, a4⟩ := hX.ra.c0
      obtain ⟨v1, a5⟩ := hX.ra.c1
      have a6 := hX.ra.f0
      have a7 := hX.ra.f1
      have HRX := Lib.hid hX
      clear hX
      go_wp2_with fail
      obtain ⟨z0, z1, hzb⟩ := HRX.out.ra.done (i * (g - i)) 1
      refine bodyPost_ret (v := ratRet (i * (g - i)) 1 true) ?_ rfl ⟨rfl, hzb.r.2.2.2⟩
      clear hzb
      generalize (X.setCell ⟨w.heap.size + 1, 0, none⟩ (.int .i64 (i * (g - i)))).setCell ⟨w.heap.size + 1, 1, none⟩ (.int .i64 1) = WF at *
      simp [results, Try.f13, go_sem, z0, z1]
    · have hm := mg_rs ha hc
      have e1 : mgP i g n d = numZ (mgX i g n d) (mgY i g n d) := by rw [← hm.1]; unfold mgP; rw [if_pos ha, if_neg hc]; rfl
      have e2 : mgQ i g n d = denZ (mgX i g n d) (mgY i g n d) := by rw [← hm.2]; unfold mgQ; rw [if_pos ha, if_neg hc]; rfl
      rw [e1, e2, ha]
      unfold mgX mgY mgA mgE
      have kk : (n == 1 && d == 2) = false := by
        rw [Bool.and_eq_false_iff, beq_eq_false_iff_ne, beq_eq_false_iff_ne]
        omega
      clear e1 e2 ha hb w1 w2 hm m1
      generalize numZ (g * winP i g n d) (winQ i g n d) = p at *
      generalize denZ (g * winP i g n d) (winQ i g n d) = q at *
      have m2 := mul_le_of' (x := i) (y := q) (A := 12) (B := 244140625) (by omega) (by omega)
      have m3 := maxN_bd (p - i * q)
      have m4 := maxN_bd (n - (d - n))
      have m5 := mul_le_of' (x := maxN (p - i * q)) (y := d) (A := 5859375000) (B := 6) (by omega) (by omega)
      have m6 := mul_le_of' (x := maxN (n - (d - n))) (y := q) (A := 6) (B := 244140625) (by omega) (by omega)
      have m7 := Int.mul_pos (m4.2.2 (by omega)) (show 0 < q by omega)
      have HR : Hid (∀ w, Calls Try.prog 20 #[.int .i64 (maxN (p - i * q) * d), .int .i64 (maxN (n - (d - n)) * q)] w (Ret w (.agg #[.int .i64 (numZ (maxN (p - i * q) * d) (maxN (n - (d - n)) * q)), .int .i64 (denZ (maxN (p - i * q) * d) (maxN (n - (d - n)) * q))]))) := Lib.hid fun w => lowZ_any _ _ w (by omega) (by omega)
      generalize numZ (maxN (p - i * q) * d) (maxN (n - (d - n)) * q) = x at *
      generalize denZ (maxN (p - i * q) * d) (maxN (n - (d - n)) * q) = y at *
      have HRE : Hid (∀ w, Calls Try.prog 33 #[.agg #[.int .i64 n, .int .i64 d]] w (Ret w (.int .i64 (d - n)))) := Lib.hid fun w => rest_any n d w (by omega)
      have k1 := IntWalk.i64_in (i * q) (by omega)
      have k2 := IntWalk.i64_in (p - i * q) (by omega)
      have k3 := IntWalk.i64_in (n - (d - n)) (by omega)
      have k4 := IntWalk.i64_in (-(p - i * q)) (by omega)
      have k5 := IntWalk.i64_in (-(n - (d - n))) (by omega)
      have k6 := IntWalk.i64_in (maxN (p - i * q) * d) (by omega)
      have k7 := IntWalk.i64_in (maxN (n - (d - n)) * q) (by omega)
      unfold maxN at HR m5 m6
      obtain ⟨m8, m9⟩ := m5
      obtain ⟨m10, m11⟩ := m6
      have m12 := Int.le_trans m9 (show (5859375000 * 6 : Int) ≤ 9223372036854775807 by decide)
      have m13 := Int.le_trans m11 (show (6 * 244140625 : Int) ≤ 9223372036854775807 by decide)
      clear m2 m3 m4 m7 k6 k7 m9 m11
      go_enter Try.func13, Try.ntmps13
      go_upto_region 4 with (go_at_call 32; refine (HWN.out _).mono ?_; rintro e ww ⟨rfl, hbw⟩; have hx := HX.out.kept hbw; have HX2 := Lib.hid hx; have r0 := hx.r.1; have r1 := hx.r.2.1; have y0 := hx.z.c0; have y1 := hx.z.c1; have y2 := hx.z.f0; have y3 := hx.z.f1; have lt1 := hx.z.lt; clear hx hbw)
      refine wp_nameR (fun X => RW w n d ww.heap.size p q X) (RW.start HX2.out p q) ?_; rintro X hX; clear r0 r1 y0 y1 y2 y3; have a0 := hX.ra.r.1; have a1 := hX.ra.r.2.1; have a2 := hX.qb.c0; have a3 := hX.qb.c1; obtain ⟨v0, a4⟩ := hX.ra.c0; obtain ⟨v1, a5⟩ := hX.ra.c1; have a6 := hX.ra.f0; have a7 := hX.ra.f1; have HRX := Lib.hid hX; clear hX
      go_wp2_with fail
      have HRW := Lib.hid (HRX.out.kept (Below.refl _ _).drew)
      go_region_held3 (fun X => X.cell? ⟨w.heap.size, 0, none⟩ = some (.int .i64 n) ∧ X.cell? ⟨w.heap.size, 1, none⟩ = some (.int .i64 d) ∧ X.cell? ⟨ww.heap.size, 0, none⟩ = some (.int .i64 p) ∧ X.cell? ⟨ww.heap.size, 1, none⟩ = some (.int .i64 q) ∧ RW w n d ww.heap.size p q X) (first | exact rmMk HRW.out | assumption | exact rmKeep (by assumption) (by assumption)) (first | (go_at_call 33; refine (HRE.out _).mono ?_; rintro e w4 ⟨rfl, hb4⟩; have HW4 := Lib.hid ((rmOf (by assumption)).kept hb4)))
      have hz := HW4.out
      have t0 := hz.ra.r.1
      have t1 := hz.ra.r.2.1
      have t2 := hz.qb.c0
      have t3 := hz.qb.c1
      clear hz
      go_wp2_with (first | (go_at_call 20; refine (HR.out _).mono ?_; rintro e wz ⟨rfl, hbz⟩; have hz := HW4.out.ra.kept hbz; obtain ⟨u0, s0⟩ := hz.c0; obtain ⟨u1, s1⟩ := hz.c1; have s2 := hz.f0; have s3 := hz.f1; have HZ := Lib.hid hz; clear hz))
      obtain ⟨z0, z1, hzb⟩ := HZ.out.done x y
      refine bodyPost_ret (v := ratRet x y true) ?_ rfl ⟨rfl, hzb.r.2.2.2⟩
      clear hzb
      generalize (wz.setCell ⟨w.heap.size + 1, 0, none⟩ (.int .i64 x)).setCell ⟨w.heap.size + 1, 1, none⟩ (.int .i64 y) = WF at *
      simp [results, Try.f13, go_sem, z0, z1]
  · have e1 : mgP i g n d = 0 := by unfold mgP; rw [ha]; rfl
    have e2 : mgQ i g n d = 0 := by unfold mgQ; rw [ha]; rfl
    have w1 : mhP i g n d = 0 := by unfold mhP; rw [ha]; rfl
    have w2 : mhQ i g n d = 0 := by unfold mhQ; rw [ha]; rfl
    rw [e1, e2]
    rw [ha, w1, w2] at HWN
    rw [ha]
    clear e1 e2 ha w1 w2
    go_enter Try.func13, Try.ntmps13
    go_wp2_with (go_at_call 32; refine (HWN.out _).mono ?_; rintro e ww ⟨rfl, hbw⟩; have hx := HX.out.kept hbw; have HX2 := Lib.hid hx; have r0 := hx.r.1; have r1 := hx.r.2.1; have y0 := hx.z.c0; have y1 := hx.z.c1; have y2 := hx.z.f0; have y3 := hx.z.f1; have lt1 := hx.z.lt; clear hx hbw)
    obtain ⟨z0, z1, hzb⟩ := HX2.out.z.done2 0 0 (.cells #[.int .i64 0, .int .i64 0] 25)
    refine bodyPost_ret (v := ratRet 0 0 false) ?_ rfl ⟨rfl, hzb⟩
    clear hzb
    generalize ((ww.setCell ⟨w.heap.size + 1, 0, none⟩ (.int .i64 0)).setCell ⟨w.heap.size + 1, 1, none⟩ (.int .i64 0)).alloc (.cells #[.int .i64 0, .int .i64 0] 25) = WF at *
    simp [results, Try.f13, go_sem, z0, z1]
end Go.Proofs.Ythgblfldncidnaa
