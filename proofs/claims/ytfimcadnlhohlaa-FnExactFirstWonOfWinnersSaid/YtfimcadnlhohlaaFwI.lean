/- The program's FirstWonOfWinners. -/
import Derived.Test.YtfimcadnlhohlaaRuinI
import Derived.Test.YtfimcadnlhohlaaLvLaw
import Derived.Test.YtfimcadnlhohlaaFwMath
namespace Go.Proofs.Ytfimcadnlhohlaa
open Go.RowKit
set_option linter.unusedVariables false
/-- a chance, a result behind it, and a row above both -/
structure RR (w : World) (n d : Int) (B : Nat) (v : Value) (xs : List Int) (X : World) : Prop where
  ra : RA w n d X
  row : IRow X B v xs
  lo : w.heap.size + 1 < B
theorem RR.kept {w X X' : World} {n d : Int} {B : Nat} {v : Value} {xs : List Int} (h : RR w n d B v xs X) (hb : Below X.heap.size X X') : RR w n d B v xs X' := ⟨h.ra.kept hb, h.row.below hb, h.lo⟩
theorem RR.done {w X : World} {n d : Int} {B : Nat} {v : Value} {xs : List Int} (h : RR w n d B v xs X) (x y : Int) : RR w n d B v xs ((X.setCell ⟨w.heap.size + 1, 0, none⟩ (.int .i64 x)).setCell ⟨w.heap.size + 1, 1, none⟩ (.int .i64 y)) :=
  ⟨(h.ra.done x y).2.2, (h.row.low ⟨w.heap.size + 1, 0, none⟩ rfl h.lo _).low ⟨w.heap.size + 1, 1, none⟩ rfl h.lo _, h.lo⟩
theorem rrOf {w X : World} {n d : Int} {B : Nat} {v : Value} {xs : List Int} (h : X.cell? ⟨w.heap.size, 0, none⟩ = some (.int .i64 n) ∧ X.cell? ⟨w.heap.size, 1, none⟩ = some (.int .i64 d) ∧ RR w n d B v xs X) : RR w n d B v xs X := h.2.2
theorem rrMk {w X : World} {n d : Int} {B : Nat} {v : Value} {xs : List Int} (h : RR w n d B v xs X) : X.cell? ⟨w.heap.size, 0, none⟩ = some (.int .i64 n) ∧ X.cell? ⟨w.heap.size, 1, none⟩ = some (.int .i64 d) ∧ RR w n d B v xs X := ⟨h.ra.r.1, h.ra.r.2.1, h⟩
theorem rrKeep {w X X' : World} {n d : Int} {B : Nat} {v : Value} {xs : List Int} (h : X.cell? ⟨w.heap.size, 0, none⟩ = some (.int .i64 n) ∧ X.cell? ⟨w.heap.size, 1, none⟩ = some (.int .i64 d) ∧ RR w n d B v xs X) (hb : Below X.heap.size X X') :
    X'.cell? ⟨w.heap.size, 0, none⟩ = some (.int .i64 n) ∧ X'.cell? ⟨w.heap.size, 1, none⟩ = some (.int .i64 d) ∧ RR w n d B v xs X' := rrMk (h.2.2.kept hb)
theorem rrStore {w X : World} {n d : Int} {B : Nat} {v : Value} {xs : List Int} (x y : Int) (h : X.cell? ⟨w.heap.size, 0, none⟩ = some (.int .i64 n) ∧ X.cell? ⟨w.heap.size, 1, none⟩ = some (.int .i64 d) ∧ RR w n d B v xs X) :
    ((X.setCell ⟨w.heap.size + 1, 0, none⟩ (.int .i64 x)).setCell ⟨w.heap.size + 1, 1, none⟩ (.int .i64 y)).cell? ⟨w.heap.size, 0, none⟩ = some (.int .i64 n) ∧ ((X.setCell ⟨w.heap.size + 1, 0, none⟩ (.int .i64 x)).setCell ⟨w.heap.size + 1, 1, none⟩ (.int .i64 y)).cell? ⟨w.heap.size, 1, none⟩ = some (.int .i64 d) ∧ RR w n d B v xs ((X.setCell ⟨w.heap.size + 1, 0, none⟩ (.int .i64 x)).setCell ⟨w.heap.size + 1, 1, none⟩ (.int .i64 y)) := rrMk (h.2.2.done x y)
set_option maxRecDepth 100000 in
set_option maxHeartbeats 4000000 in
theorem firstI_ret (i g n d : Int) (w : World) : Calls Try.prog 44 #[.int .i64 i, .int .i64 g, .agg #[.int .i64 n, .int .i64 d]] w (Ret w (ratRet (fwP i g n d) (fwQ i g n d) (fwOk i g n d))) := by
  have HA : Hid (∀ w, Calls Try.prog 58 #[.int .i64 i, .int .i64 g, .agg #[.int .i64 n, .int .i64 d]] w (Ret w (.bool (askB i g n d)))) := Lib.hid fun w => isPlay_ret i g n d w
  have HX := Lib.hid (RZ.start w n d)
  rcases Bool.eq_false_or_eq_true (askB i g n d) with ha | ha
  · obtain ⟨bg, bi, bd, bn⟩ := askB_of ha
    have hig : inBd 1 12 g = true := by unfold inBd; simp only [Bool.and_eq_true, decide_eq_true_eq]; omega
    have HI : Hid (∀ X : World, Calls Try.prog 71 #[.int .i64 g, .slice (some ⟨X.heap.size, 0, none⟩) 1 1] (X.alloc (.cells #[.int .i64 i] 3)) fun e w' => e = .returned (.bool (inBd 1 (g - 1) i)) ∧ Below X.heap.size X w') := Lib.hid (by
      have := play_lit g i
      rw [hig, Bool.true_and] at this
      exact this)
    rcases Bool.eq_false_or_eq_true (inBd 1 (g - 1) i) with hb | hb
    · have hok : fwOk i g n d = true := by unfold fwOk; rw [ha, hb]; rfl
      have hi1 : 1 ≤ i ∧ i ≤ g - 1 := by unfold inBd at hb; simpa only [Bool.and_eq_true, decide_eq_true_eq] using hb
      have hfw := fw_rs ha hi1
      have e1 : fwP i g n d = numZ (n * rsS g.toNat n d (i.toNat + 1)) (d * rsS g.toNat n d i.toNat) := by unfold fwP; rw [if_pos hok, hfw.1]
      have e2 : fwQ i g n d = denZ (n * rsS g.toNat n d (i.toNat + 1)) (d * rsS g.toNat n d i.toNat) := by unfold fwQ; rw [if_pos hok, hfw.2]
      rw [e1, e2, hok]
      rw [ha] at HA
      rw [hb] at HI
      clear e1 e2 hfw hok ha hb hig
      obtain ⟨I, rfl⟩ := Int.eq_ofNat_of_zero_le bi.1
      obtain ⟨G, rfl⟩ := Int.eq_ofNat_of_zero_le (show 0 ≤ g by omega)
      simp only [Int.toNat_natCast]
      have HRT : Hid (∀ w, Calls Try.prog 59 #[.int .i64 (G : Int), .agg #[.int .i64 n, .int .i64 d]] w (IntsNew w (fr (rsF G n d) G))) := Lib.hid fun w => risesTo_any G n d w (by omega) (by omega) (by omega) (by omega)
      have hsb : ∀ j, j ≤ G → 0 ≤ sumTo (rsF G n d) j ∧ sumTo (rsF G n d) j ≤ 9000000000000000000 := fun j hj => by
        have := rsS_bd (g := G) (n := n) (d := d) (m := j) (by omega) (by omega) (by omega) (by omega) hj
        unfold rsS at this
        omega
      have HCAP : Hid (∀ (X : World) (B gg cc : Nat), IRow X B (.slice (some ⟨gg, 0, none⟩) G cc) (fr (rsF G n d) G) → (G : Int) ≤ (cc : Int)) := Lib.hid fun X B gg cc hr => by have := rowCap hr; omega
      have HSUM1 : Hid (∀ (X : World) (B gg cc : Nat), (X.cell? ⟨w.heap.size, 0, none⟩ = some (.int .i64 n) ∧ X.cell? ⟨w.heap.size, 1, none⟩ = some (.int .i64 d) ∧ RR w n d B (.slice (some ⟨gg, 0, none⟩) G cc) (fr (rsF G n d) G) X) → Calls Try.prog 61 #[.slice (some ⟨gg, 0, none⟩) (I + 1) cc] X fun e w' => e = .returned (.int .i64 (rsS G n d (I + 1))) ∧ X = w') := Lib.hid fun X B gg cc hr => sumPre (by omega) (by omega) hsb hr.2.2.row
      have HSUM2 : Hid (∀ (X : World) (B gg cc : Nat), (X.cell? ⟨w.heap.size, 0, none⟩ = some (.int .i64 n) ∧ X.cell? ⟨w.heap.size, 1, none⟩ = some (.int .i64 d) ∧ RR w n d B (.slice (some ⟨gg, 0, none⟩) G cc) (fr (rsF G n d) G) X) → Calls Try.prog 61 #[.slice (some ⟨gg, 0, none⟩) I cc] X fun e w' => e = .returned (.int .i64 (rsS G n d I)) ∧ X = w') := Lib.hid fun X B gg cc hr => sumPre (by omega) (by omega) hsb hr.2.2.row
      have b1 := rsS_bd (g := G) (n := n) (d := d) (m := I) (by omega) (by omega) (by omega) (by omega) (by omega)
      have b2 := rsS_bd (g := G) (n := n) (d := d) (m := I + 1) (by omega) (by omega) (by omega) (by omega) (by omega)
      have b3 := b1.2.2 (by omega)
      generalize rsS G n d I = u1 at *
      generalize rsS G n d (I + 1) = u2 at *
      have m1 := mul_le_of' (x := n) (y := u2) (A := 6) (B := 585937500) (by omega) (by omega)
      have m2 := mul_le_of' (x := d) (y := u1) (A := 6) (B := 585937500) (by omega) (by omega)
      have m3 := Int.mul_pos (show 0 < d by omega) b3
      have HR : Hid (∀ w, Calls Try.prog 60 #[.int .i64 (n * u2), .int .i64 (d * u1)] w (Ret w (.agg #[.int .i64 (numZ (n * u2) (d * u1)), .int .i64 (denZ (n * u2) (d * u1))]))) := Lib.hid fun w => lowZ_any _ _ w (by omega) (by omega)
      generalize numZ (n * u2) (d * u1) = x at *
      generalize denZ (n * u2) (d * u1) = y at *
      have k1 := IntWalk.i64_in ((I : Int) + 1) (by omega)
      have k2 := IntWalk.i64_in (n * u2) (by omega)
      have k3 := IntWalk.i64_in (d * u1) (by omega)
      have k4 : ((I : Int) + 1).toNat = I + 1 := by omega
      have k5 : (0 : Int) ≤ (I : Int) + 1 := by omega
      have k6 : (0 : Int) ≤ (I : Int) := by omega
      have k7 : (I : Int) + 1 ≤ (G : Int) := by omega
      have HLE : Hid (∀ cc : Nat, (G : Int) ≤ (cc : Int) → (I : Int) + 1 ≤ (cc : Int) ∧ (I : Int) ≤ (cc : Int)) := Lib.hid fun cc h => by omega
      clear hsb b1 b2 b3 m1 m2 m3
      go_enter Try.func44, Try.ntmps44
      go_wp2_with (first | (go_at_call 58; refine (HA.out _).mono ?_; rintro e wa ⟨rfl, hba⟩; have hx := HX.out.kept hba; have r0 := hx.r.1; have r1 := hx.r.2.1; have y0 := hx.z.c0; have y1 := hx.z.c1; have y2 := hx.z.f0; have y3 := hx.z.f1; have lt1 := hx.z.lt; have HX2 := Lib.hid hx; clear hx hba) | (go_at_call 71; refine (HI.out _).mono ?_; rintro e wb ⟨rfl, hbb⟩; have hx := HX2.out.kept hbb; have q4 := hx.r.1; have q5 := hx.r.2.1; have q0 := hx.z.c0; have q1 := hx.z.c1; have q2 := hx.z.f0; have q3 := hx.z.f1; have lt2 := hx.z.lt; have HX3 := Lib.hid hx; clear hx hbb r0 r1 y0 y1 y2 y3) | (go_at_call 59; refine (HRT.out _).mono ?_; rintro e w3 ⟨v3, rfl, hr3, hb3⟩; obtain ⟨g3, c3, rfl, hg3, hl3⟩ := hr3.form' (fr_length _ _) (by omega); have HRR := Lib.hid (RR.mk ((RA.of HX3.out).kept hb3) hr3 lt2); have cp := HCAP.out _ _ _ _ hr3; clear hr3 hb3 q0 q1 q2 q3 q4 q5))
      have hle := HLE.out _ cp
      have k8 := hle.1
      have k9 := hle.2
      clear hle
      have HS1 := Lib.hid fun X => HSUM1.out X wb.heap.size g3 c3
      have HS2 := Lib.hid fun X => HSUM2.out X wb.heap.size g3 c3
      have HRR0 := Lib.hid (HRR.out.kept (Below.refl _ _).drew)
      go_region_held3 (fun X => X.cell? ⟨w.heap.size, 0, none⟩ = some (.int .i64 n) ∧ X.cell? ⟨w.heap.size, 1, none⟩ = some (.int .i64 d) ∧ RR w n d wb.heap.size (.slice (some ⟨g3, 0, none⟩) G c3) (fr (rsF G n d) G) X) (first | exact rrMk HRR0.out | assumption | exact rrKeep (by assumption) (by assumption) | exact rrStore _ _ (by assumption)) (first | (go_at_call 61; first | (with_reducible refine (HS1.out _ ?_).mono ?_; assumption; rintro e w' ⟨rfl, rfl⟩) | (with_reducible refine (HS2.out _ ?_).mono ?_; assumption; rintro e w' ⟨rfl, rfl⟩)) | (go_at_call 60; refine (HR.out _).mono ?_; rintro e wz ⟨rfl, hbz⟩; have hz := (RA.kept (rrOf (by assumption)).ra hbz); obtain ⟨u0, s0⟩ := hz.c0; obtain ⟨u1, s1⟩ := hz.c1; have s2 := hz.f0; have s3 := hz.f1; have HZ := Lib.hid hz; clear hz))
      all_goals
        go_wp2_with fail
        obtain ⟨z0, z1, hzb⟩ := HZ.out.done x y
        refine bodyPost_ret (v := ratRet x y true) ?_ rfl ⟨rfl, hzb.r.2.2.2⟩
        clear hzb
        generalize (wz.setCell ⟨w.heap.size + 1, 0, none⟩ (.int .i64 x)).setCell ⟨w.heap.size + 1, 1, none⟩ (.int .i64 y) = WF at *
        simp [results, Try.f44, go_sem, z0, z1]
    · have hok : fwOk i g n d = false := by unfold fwOk; rw [ha, hb]; rfl
      have e1 : fwP i g n d = 0 := by unfold fwP; rw [hok]; rfl
      have e2 : fwQ i g n d = 0 := by unfold fwQ; rw [hok]; rfl
      rw [e1, e2, hok]
      rw [ha] at HA
      rw [hb] at HI
      clear hok e1 e2 ha hb
      go_enter Try.func44, Try.ntmps44
      go_wp2_with (first | (go_at_call 58; refine (HA.out _).mono ?_; rintro e wa ⟨rfl, hba⟩; have hx := HX.out.kept hba; have r0 := hx.r.1; have r1 := hx.r.2.1; have y0 := hx.z.c0; have y1 := hx.z.c1; have y2 := hx.z.f0; have y3 := hx.z.f1; have lt1 := hx.z.lt; have HX2 := Lib.hid hx; clear hx hba) | (go_at_call 71; refine (HI.out _).mono ?_; rintro e wb ⟨rfl, hbb⟩; have hx := HX2.out.kept hbb; have q4 := hx.r.1; have q5 := hx.r.2.1; have q0 := hx.z.c0; have q1 := hx.z.c1; have q2 := hx.z.f0; have q3 := hx.z.f1; have lt2 := hx.z.lt; have HX3 := Lib.hid hx; clear hx hbb r0 r1 y0 y1 y2 y3))
      obtain ⟨z0, z1, hzb⟩ := HX3.out.z.done 0 0
      refine bodyPost_ret (v := ratRet 0 0 false) ?_ rfl ⟨rfl, hzb⟩
      clear hzb
      generalize (wb.setCell ⟨w.heap.size + 1, 0, none⟩ (.int .i64 0)).setCell ⟨w.heap.size + 1, 1, none⟩ (.int .i64 0) = WF at *
      simp [results, Try.f44, go_sem, z0, z1]
  · have hok : fwOk i g n d = false := by unfold fwOk; rw [ha]; rfl
    have e1 : fwP i g n d = 0 := by unfold fwP; rw [hok]; rfl
    have e2 : fwQ i g n d = 0 := by unfold fwQ; rw [hok]; rfl
    rw [e1, e2, hok]
    rw [ha] at HA
    clear hok e1 e2 ha
    go_enter Try.func44, Try.ntmps44
    go_wp2_with (go_at_call 58; refine (HA.out _).mono ?_; rintro e wa ⟨rfl, hba⟩; have hx := HX.out.kept hba; have r0 := hx.r.1; have r1 := hx.r.2.1; have y0 := hx.z.c0; have y1 := hx.z.c1; have y2 := hx.z.f0; have y3 := hx.z.f1; have lt1 := hx.z.lt; have HX2 := Lib.hid hx; clear hx hba)
    obtain ⟨z0, z1, hzb⟩ := HX2.out.z.done 0 0
    refine bodyPost_ret (v := ratRet 0 0 false) ?_ rfl ⟨rfl, hzb⟩
    clear hzb
    generalize (wa.setCell ⟨w.heap.size + 1, 0, none⟩ (.int .i64 0)).setCell ⟨w.heap.size + 1, 1, none⟩ (.int .i64 0) = WF at *
    simp [results, Try.f44, go_sem, z0, z1]
end Go.Proofs.Ytfimcadnlhohlaa
