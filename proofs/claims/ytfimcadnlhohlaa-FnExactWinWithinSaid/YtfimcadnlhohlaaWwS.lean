/- The model's WinWithin, RuinWithin. -/
import Derived.Test.YtfimcadnlhohlaaRaS
import Derived.Test.YtfimcadnlhohlaaHwS
import Derived.Deep.RegionLaw
namespace Go.Proofs.Ytfimcadnlhohlaa
open Go.RowKit
set_option linter.unusedVariables false
set_option maxRecDepth 100000 in
set_option maxHeartbeats 2000000 in
theorem specWinWithin_ret (i g n d k : Int) (w : World) : Calls Try.prog 32 #[.int .i64 i, .int .i64 g, .agg #[.int .i64 n, .int .i64 d], .int .i64 k] w (Ret w (ratRet (wwP i g n d k) (wwQ i g n d k) (timB i g n d k))) := by
  have HA : Hid (∀ w, Calls Try.prog 67 #[.int .i64 i, .int .i64 g, .agg #[.int .i64 n, .int .i64 d], .int .i64 k] w (Ret w (.bool (timB i g n d k)))) := Lib.hid fun w => ruTimes_any i g n d k w
  have HX := Lib.hid (RZ.start w n d)
  rcases Bool.eq_false_or_eq_true (timB i g n d k) with ha | ha
  · obtain ⟨h1, h2, h3⟩ := timB_of ha
    obtain ⟨bg, bi, bd, bn⟩ := askB_of h1
    unfold wwP wwQ
    simp only [if_pos ha]
    rw [ha] at HA ⊢
    clear ha h1
    obtain ⟨I, rfl⟩ := Int.eq_ofNat_of_zero_le bi.1
    obtain ⟨G, rfl⟩ := Int.eq_ofNat_of_zero_le (show 0 ≤ g by omega)
    obtain ⟨K, rfl⟩ := Int.eq_ofNat_of_zero_le h2
    simp only [Int.toNat_natCast]
    have HH : Hid (∀ w, Calls Try.prog 68 #[.int .i64 (I : Int), .int .i64 (G : Int), .agg #[.int .i64 n, .int .i64 d], .int .i64 (K : Int)] w (IntsNew w (fr (hw I G n d K) (G + 1)))) := Lib.hid fun w => ruHeld_any I G K n d w (by omega) (by omega) (by omega) (by omega) (by omega) (by omega)
    have HP : Hid (∀ w, Calls Try.prog 65 #[.int .i64 d, .int .i64 (K : Int)] w fun e w' => e = .returned (.int .i64 (d ^ K)) ∧ w = w') := Lib.hid fun w => ruPower_any d K w (by omega) (by omega)
    have p1 := hw_bd (i := I) (g := G) (n := n) (d := d) (k := K) (j := G) (by omega) (by omega) (by omega) (by omega) (by omega) (Nat.le_refl _)
    have p2 := pow6' (x := d) (k := K) (by omega) (by omega)
    have p3 := pow_pos1 (x := d) (by omega) K
    have HCL : Hid (∀ (W : World) (B gg cc : Nat), IRow W B (.slice (some ⟨gg, 0, none⟩) (G + 1) cc) (fr (hw I G n d K) (G + 1)) → W.cell? ⟨gg, G, none⟩ = some (.int .i64 (hw I G n d K G))) := Lib.hid fun W B gg cc hr => by
      have := hr.cell (j := G) (by rw [fr_length]; omega)
      rwa [fr_get _ _ _ (by omega)] at this
    generalize hw I G n d K G = a at *
    generalize d ^ K = b at *
    have HR : Hid (∀ w, Calls Try.prog 62 #[.int .i64 a, .int .i64 b] w (Ret w (.agg #[.int .i64 (numZ a b), .int .i64 (denZ a b)]))) := Lib.hid fun w => ruRatioZ_any a b w (by omega) (by omega)
    generalize numZ a b = x at *
    generalize denZ a b = y at *
    have i1 : (G : Int) < (G : Int) + 1 := by omega
    go_enter Try.func32, Try.ntmps32
    go_wp2_with (go_at_call 67; refine (HA.out _).mono ?_; rintro e wa ⟨rfl, hba⟩; have hx := HX.out.kept hba; have r0 := hx.r.1; have r1 := hx.r.2.1; have y0 := hx.z.c0; have y1 := hx.z.c1; have y2 := hx.z.f0; have y3 := hx.z.f1; have lt1 := hx.z.lt; have HX2 := Lib.hid hx; clear hx hba)
    have HBX := Lib.hid (RA.of HX2.out)
    go_region_law (first | (go_simp; go_at_call 68; refine (HH.out _).mono ?_; rintro e w3 ⟨v3, rfl, hr3, hb'⟩; obtain ⟨g3, c3, rfl, hg3⟩ := hr3.form' (fr_length _ _) (by omega); have e5 := HCL.out _ _ _ _ hr3; have ha3 := Lib.hid (HBX.out.kept ((Below.refl wa.heap.size wa).drew.trans hb')); have l0 := ha3.out.r.1; have l1 := ha3.out.r.2.1; clear hr3 hg3 hb') | (go_simp; go_at_call 65; refine (HP.out _).mono ?_; rintro e w' ⟨rfl, rfl⟩) | (go_simp; go_at_call 62; refine (HR.out _).mono ?_; rintro e wz ⟨rfl, hbz⟩; have hz := ha3.out.kept hbz; obtain ⟨u0, s0⟩ := hz.c0; obtain ⟨u1, s1⟩ := hz.c1; have s2 := hz.f0; have s3 := hz.f1; have HZ := Lib.hid hz; clear hz))
    all_goals
      go_wp2_with fail
      obtain ⟨z0, z1, hzb⟩ := HZ.out.done x y
      refine bodyPost_ret (v := ratRet x y true) ?_ rfl ⟨rfl, hzb.r.2.2.2⟩
      clear hzb
      generalize (wz.setCell ⟨w.heap.size + 1, 0, none⟩ (.int .i64 x)).setCell ⟨w.heap.size + 1, 1, none⟩ (.int .i64 y) = WF at *
      simp [results, Try.f32, go_sem, z0, z1]
  · have e1 : wwP i g n d k = 0 := by unfold wwP; rw [ha]; rfl
    have e2 : wwQ i g n d k = 0 := by unfold wwQ; rw [ha]; rfl
    rw [e1, e2]
    rw [ha] at HA ⊢
    clear e1 e2 ha
    go_enter Try.func32, Try.ntmps32
    go_wp2_with (go_at_call 67; refine (HA.out _).mono ?_; rintro e wa ⟨rfl, hba⟩; have hx := HX.out.kept hba; have r0 := hx.r.1; have r1 := hx.r.2.1; have y0 := hx.z.c0; have y1 := hx.z.c1; have y2 := hx.z.f0; have y3 := hx.z.f1; have lt1 := hx.z.lt; have HX2 := Lib.hid hx; clear hx hba)
    obtain ⟨z0, z1, hzb⟩ := HX2.out.z.done 0 0
    refine bodyPost_ret (v := ratRet 0 0 false) ?_ rfl ⟨rfl, hzb⟩
    clear hzb
    generalize (wa.setCell ⟨w.heap.size + 1, 0, none⟩ (.int .i64 0)).setCell ⟨w.heap.size + 1, 1, none⟩ (.int .i64 0) = WF at *
    simp [results, Try.f32, go_sem, z0, z1]
set_option maxRecDepth 100000 in
set_option maxHeartbeats 2000000 in
theorem specRuinWithin_ret (i g n d k : Int) (w : World) : Calls Try.prog 34 #[.int .i64 i, .int .i64 g, .agg #[.int .i64 n, .int .i64 d], .int .i64 k] w (Ret w (ratRet (rwP i g n d k) (rwQ i g n d k) (timB i g n d k))) := by
  have HA : Hid (∀ w, Calls Try.prog 67 #[.int .i64 i, .int .i64 g, .agg #[.int .i64 n, .int .i64 d], .int .i64 k] w (Ret w (.bool (timB i g n d k)))) := Lib.hid fun w => ruTimes_any i g n d k w
  have HX := Lib.hid (RZ.start w n d)
  rcases Bool.eq_false_or_eq_true (timB i g n d k) with ha | ha
  · obtain ⟨h1, h2, h3⟩ := timB_of ha
    obtain ⟨bg, bi, bd, bn⟩ := askB_of h1
    unfold rwP rwQ
    simp only [if_pos ha]
    rw [ha] at HA ⊢
    clear ha h1
    obtain ⟨I, rfl⟩ := Int.eq_ofNat_of_zero_le bi.1
    obtain ⟨G, rfl⟩ := Int.eq_ofNat_of_zero_le (show 0 ≤ g by omega)
    obtain ⟨K, rfl⟩ := Int.eq_ofNat_of_zero_le h2
    simp only [Int.toNat_natCast]
    have HH : Hid (∀ w, Calls Try.prog 68 #[.int .i64 (I : Int), .int .i64 (G : Int), .agg #[.int .i64 n, .int .i64 d], .int .i64 (K : Int)] w (IntsNew w (fr (hw I G n d K) (G + 1)))) := Lib.hid fun w => ruHeld_any I G K n d w (by omega) (by omega) (by omega) (by omega) (by omega) (by omega)
    have HP : Hid (∀ w, Calls Try.prog 65 #[.int .i64 d, .int .i64 (K : Int)] w fun e w' => e = .returned (.int .i64 (d ^ K)) ∧ w = w') := Lib.hid fun w => ruPower_any d K w (by omega) (by omega)
    have p1 := hw_bd (i := I) (g := G) (n := n) (d := d) (k := K) (j := 0) (by omega) (by omega) (by omega) (by omega) (by omega) (Nat.zero_le _)
    have p2 := pow6' (x := d) (k := K) (by omega) (by omega)
    have p3 := pow_pos1 (x := d) (by omega) K
    have HCL : Hid (∀ (W : World) (B gg cc : Nat), IRow W B (.slice (some ⟨gg, 0, none⟩) (G + 1) cc) (fr (hw I G n d K) (G + 1)) → W.cell? ⟨gg, 0, none⟩ = some (.int .i64 (hw I G n d K 0))) := Lib.hid fun W B gg cc hr => by
      have := hr.cell (j := 0) (by rw [fr_length]; omega)
      rwa [fr_get _ _ _ (by omega)] at this
    generalize hw I G n d K 0 = a at *
    generalize d ^ K = b at *
    have HR : Hid (∀ w, Calls Try.prog 62 #[.int .i64 a, .int .i64 b] w (Ret w (.agg #[.int .i64 (numZ a b), .int .i64 (denZ a b)]))) := Lib.hid fun w => ruRatioZ_any a b w (by omega) (by omega)
    generalize numZ a b = x at *
    generalize denZ a b = y at *
    have i1 : (0 : Int) < (G : Int) + 1 := by omega
    go_enter Try.func34, Try.ntmps34
    go_wp2_with (go_at_call 67; refine (HA.out _).mono ?_; rintro e wa ⟨rfl, hba⟩; have hx := HX.out.kept hba; have r0 := hx.r.1; have r1 := hx.r.2.1; have y0 := hx.z.c0; have y1 := hx.z.c1; have y2 := hx.z.f0; have y3 := hx.z.f1; have lt1 := hx.z.lt; have HX2 := Lib.hid hx; clear hx hba)
    have HBX := Lib.hid (RA.of HX2.out)
    go_region_law (first | (go_simp; go_at_call 68; refine (HH.out _).mono ?_; rintro e w3 ⟨v3, rfl, hr3, hb'⟩; obtain ⟨g3, c3, rfl, hg3⟩ := hr3.form' (fr_length _ _) (by omega); have e5 := HCL.out _ _ _ _ hr3; have ha3 := Lib.hid (HBX.out.kept ((Below.refl wa.heap.size wa).drew.trans hb')); have l0 := ha3.out.r.1; have l1 := ha3.out.r.2.1; clear hr3 hg3 hb') | (go_simp; go_at_call 65; refine (HP.out _).mono ?_; rintro e w' ⟨rfl, rfl⟩) | (go_simp; go_at_call 62; refine (HR.out _).mono ?_; rintro e wz ⟨rfl, hbz⟩; have hz := ha3.out.kept hbz; obtain ⟨u0, s0⟩ := hz.c0; obtain ⟨u1, s1⟩ := hz.c1; have s2 := hz.f0; have s3 := hz.f1; have HZ := Lib.hid hz; clear hz))
    all_goals
      go_wp2_with fail
      obtain ⟨z0, z1, hzb⟩ := HZ.out.done x y
      refine bodyPost_ret (v := ratRet x y true) ?_ rfl ⟨rfl, hzb.r.2.2.2⟩
      clear hzb
      generalize (wz.setCell ⟨w.heap.size + 1, 0, none⟩ (.int .i64 x)).setCell ⟨w.heap.size + 1, 1, none⟩ (.int .i64 y) = WF at *
      simp [results, Try.f34, go_sem, z0, z1]
  · have e1 : rwP i g n d k = 0 := by unfold rwP; rw [ha]; rfl
    have e2 : rwQ i g n d k = 0 := by unfold rwQ; rw [ha]; rfl
    rw [e1, e2]
    rw [ha] at HA ⊢
    clear e1 e2 ha
    go_enter Try.func34, Try.ntmps34
    go_wp2_with (go_at_call 67; refine (HA.out _).mono ?_; rintro e wa ⟨rfl, hba⟩; have hx := HX.out.kept hba; have r0 := hx.r.1; have r1 := hx.r.2.1; have y0 := hx.z.c0; have y1 := hx.z.c1; have y2 := hx.z.f0; have y3 := hx.z.f1; have lt1 := hx.z.lt; have HX2 := Lib.hid hx; clear hx hba)
    obtain ⟨z0, z1, hzb⟩ := HX2.out.z.done 0 0
    refine bodyPost_ret (v := ratRet 0 0 false) ?_ rfl ⟨rfl, hzb⟩
    clear hzb
    generalize (wa.setCell ⟨w.heap.size + 1, 0, none⟩ (.int .i64 0)).setCell ⟨w.heap.size + 1, 1, none⟩ (.int .i64 0) = WF at *
    simp [results, Try.f34, go_sem, z0, z1]
end Go.Proofs.Ytfimcadnlhohlaa
