/- The program's EverRuined, FairVisits. -/
import Derived.Test.YtfimcadnlhohlaaRuinI
import Derived.Test.YtfimcadnlhohlaaErS
import Derived.Deep.RegionLaw
import Derived.ChangeKeysEq
import Derived.Test.YtfimcadnlhohlaaDegI
namespace Go.Proofs.Ytfimcadnlhohlaa
open Go.RowKit
set_option linter.unusedVariables false
theorem numZ_self {x : Int} (h : 0 < x) : numZ x x = 1 ∧ denZ x x = 1 := by
  unfold numZ denZ
  rw [Nat.gcd_self, show ((x.natAbs : Nat) : Int) = x by omega, Int.tdiv_self (by omega)]
  exact ⟨rfl, rfl⟩
set_option maxRecDepth 100000 in
set_option maxHeartbeats 2000000 in
theorem everI_ret (i n d : Int) (w : World) : Calls Try.prog 31 #[.int .i64 i, .agg #[.int .i64 n, .int .i64 d]] w (Ret w (ratRet (erP i n d) (erQ i n d) (erOk i n d))) := by
  obtain ⟨W, hW⟩ : ∃ W, W = (w.alloc (.cells #[.int .i64 n, .int .i64 d] 25)).alloc (.cells #[.int .i64 0, .int .i64 0] 25) := ⟨_, rfl⟩; have hz : w.heap.size + 1 + 1 = W.heap.size := (by simp [hW]); have hx : RZ w n d W := (by rw [hW]; exact RZ.start w n d); have HX := Lib.hid hx; have HW := Lib.hid hW; have HZ0 := Lib.hid hz
  clear hx hz hW
  have HZ := HZ0
  clear HZ0
  have H1 : Hid (∀ X : World, Calls Try.prog 54 #[.int .i64 0, .int .i64 12, .slice (some ⟨X.heap.size, 0, none⟩) 1 1] (X.alloc (.cells #[.int .i64 i] 3)) fun e w' => e = .returned (.bool (inBd 0 12 i)) ∧ Below X.heap.size X w') := Lib.hid (within_lit 0 12 i)
  have HA : Hid (∀ w, Calls Try.prog 20 #[.agg #[.int .i64 n, .int .i64 d]] w (Ret w (.bool (ruB n d)))) := Lib.hid fun w => isChanceI_ret n d w
  rcases Bool.eq_false_or_eq_true (inBd 0 12 i) with a1 | a1
  · rcases Bool.eq_false_or_eq_true (ruB n d) with a2 | a2
    · have hok : erOk i n d = true := by unfold erOk; rw [a1, a2]; rfl
      have hi : 0 ≤ i ∧ i ≤ 12 := by unfold inBd at a1; simpa only [Bool.and_eq_true, decide_eq_true_eq] using a1
      obtain ⟨h1, h2, h3, h4⟩ := ruB_of a2
      obtain ⟨I, rfl⟩ := Int.eq_ofNat_of_zero_le hi.1
      have p1 := pow5 (x := n) (by omega) (k := I) (by omega)
      have p2 := pow5 (x := min (d - n) n) (by omega) (k := I) (by omega)
      have p3 := pow_pos1 (x := n) (by omega) I
      have e1 : erP I n d = numZ ((min (d - n) n) ^ I) (n ^ I) := by
        unfold erP
        rw [if_pos hok, Int.toNat_natCast]
        split
        · rw [show min (d - n) n = n by omega]; exact (numZ_self (by omega)).1.symm
        · rw [show min (d - n) n = d - n by omega]
      have e2 : erQ I n d = denZ ((min (d - n) n) ^ I) (n ^ I) := by
        unfold erQ
        rw [if_pos hok, Int.toNat_natCast]
        split
        · rw [show min (d - n) n = n by omega]; exact (numZ_self (by omega)).2.symm
        · rw [show min (d - n) n = d - n by omega]
      rw [e1, e2, hok]
      rw [a1] at H1
      rw [a2] at HA
      clear hok a1 a2 e1 e2
      have P1 : Hid (∀ w, Calls Try.prog 66 #[.int .i64 (min (d - n) n), .int .i64 (I : Int)] w fun e w' => e = .returned (.int .i64 ((min (d - n) n) ^ I)) ∧ w = w') := Lib.hid fun w => powerN_any _ I w (by omega) (by omega)
      have P2 : Hid (∀ w, Calls Try.prog 66 #[.int .i64 n, .int .i64 (I : Int)] w fun e w' => e = .returned (.int .i64 (n ^ I)) ∧ w = w') := Lib.hid fun w => powerN_any n I w (by omega) (by omega)
      have HRE : Hid (∀ w, Calls Try.prog 63 #[.agg #[.int .i64 n, .int .i64 d]] w (Ret w (.int .i64 (d - n)))) := Lib.hid fun w => rest_any n d w (by omega)
      generalize n ^ I = u at *
      generalize (min (d - n) n) ^ I = v at *
      have HR : Hid (∀ w, Calls Try.prog 60 #[.int .i64 v, .int .i64 u] w (Ret w (.agg #[.int .i64 (numZ v u), .int .i64 (denZ v u)]))) := Lib.hid fun w => lowZ_any v u w (by omega) (by omega)
      generalize numZ v u = x at *
      generalize denZ v u = y at *
      go_enter Try.func31, Try.ntmps31
      go_wp2_with (first | (rw [← HW.out]; rw [HZ.out]; go_at_call 54; refine (H1.out _).mono ?_; rintro e w1 ⟨rfl, hb1⟩; have hx := HX.out.kept hb1; have r0 := hx.r.1; have r1 := hx.r.2.1; have y0 := hx.z.c0; have y1 := hx.z.c1; have y2 := hx.z.f0; have y3 := hx.z.f1; have lt1 := hx.z.lt; have HX2 := Lib.hid hx; clear hx hb1) | (go_at_call 20; refine (HA.out _).mono ?_; rintro e wa ⟨rfl, hba⟩; have hx := HX2.out.kept hba; have q4 := hx.r.1; have q5 := hx.r.2.1; have q0 := hx.z.c0; have q1 := hx.z.c1; have q2 := hx.z.f0; have q3 := hx.z.f1; have lt2 := hx.z.lt; have HX3 := Lib.hid hx; clear hx hba r0 r1 y0 y1 y2 y3))
      clear HZ
      have HRA := Lib.hid ((RA.of HX3.out).kept (Below.refl _ _).drew)
      go_region_held3 (fun X => X.cell? ⟨w.heap.size, 0, none⟩ = some (.int .i64 n) ∧ X.cell? ⟨w.heap.size, 1, none⟩ = some (.int .i64 d) ∧ RA w n d X) (first | exact ⟨HRA.out.r.1, HRA.out.r.2.1, HRA.out⟩ | assumption | exact raKeep (by assumption) (by assumption) | exact raStore _ _ (by assumption)) (first | (go_at_call 63; refine (HRE.out _).mono ?_; rintro e w4 ⟨rfl, hb4⟩) | (go_at_call 66; first | (with_reducible refine (P1.out _).mono ?_; rintro e w' ⟨rfl, rfl⟩) | (with_reducible refine (P2.out _).mono ?_; rintro e w' ⟨rfl, rfl⟩)) | (go_at_call 60; refine (HR.out _).mono ?_; rintro e wz ⟨rfl, hbz⟩; have hz := (RA.kept (raOf (by assumption)) hbz); obtain ⟨u0, s0⟩ := hz.c0; obtain ⟨u1, s1⟩ := hz.c1; have s2 := hz.f0; have s3 := hz.f1; have HZ := Lib.hid hz; clear hz))
      all_goals
        go_wp2_with fail
        obtain ⟨z0, z1, hzb⟩ := HZ.out.done x y
        refine bodyPost_ret (v := ratRet x y true) ?_ rfl ⟨rfl, hzb.r.2.2.2⟩
        clear hzb
        generalize (wz.setCell ⟨w.heap.size + 1, 0, none⟩ (.int .i64 x)).setCell ⟨w.heap.size + 1, 1, none⟩ (.int .i64 y) = WF at *
        simp [results, Try.f31, go_sem, z0, z1]
    · have hok : erOk i n d = false := by unfold erOk; rw [a1, a2]; rfl
      have e1 : erP i n d = 0 := by unfold erP; rw [hok]; rfl
      have e2 : erQ i n d = 0 := by unfold erQ; rw [hok]; rfl
      rw [e1, e2, hok]
      rw [a1] at H1
      rw [a2] at HA
      clear e1 e2 hok a1 a2
      go_enter Try.func31, Try.ntmps31
      go_wp2_with (first | (rw [← HW.out]; rw [HZ.out]; go_at_call 54; refine (H1.out _).mono ?_; rintro e w1 ⟨rfl, hb1⟩; have hx := HX.out.kept hb1; have r0 := hx.r.1; have r1 := hx.r.2.1; have y0 := hx.z.c0; have y1 := hx.z.c1; have y2 := hx.z.f0; have y3 := hx.z.f1; have lt1 := hx.z.lt; have HX2 := Lib.hid hx; clear hx hb1) | (go_at_call 20; refine (HA.out _).mono ?_; rintro e wa ⟨rfl, hba⟩; have hx := HX2.out.kept hba; have q4 := hx.r.1; have q5 := hx.r.2.1; have q0 := hx.z.c0; have q1 := hx.z.c1; have q2 := hx.z.f0; have q3 := hx.z.f1; have lt2 := hx.z.lt; have HX3 := Lib.hid hx; clear hx hba r0 r1 y0 y1 y2 y3))
      obtain ⟨z0, z1, hzb⟩ := HX3.out.z.done 0 0
      refine bodyPost_ret (v := ratRet 0 0 false) ?_ rfl ⟨rfl, hzb⟩
      clear hzb
      generalize (wa.setCell ⟨w.heap.size + 1, 0, none⟩ (.int .i64 0)).setCell ⟨w.heap.size + 1, 1, none⟩ (.int .i64 0) = WF at *
      simp [results, Try.f31, go_sem, z0, z1]
  · have hok : erOk i n d = false := by unfold erOk; rw [a1]; rfl
    have e1 : erP i n d = 0 := by unfold erP; rw [hok]; rfl
    have e2 : erQ i n d = 0 := by unfold erQ; rw [hok]; rfl
    rw [e1, e2, hok]
    rw [a1] at H1
    clear e1 e2 hok a1
    go_enter Try.func31, Try.ntmps31
    go_wp2_with (rw [← HW.out]; rw [HZ.out]; go_at_call 54; refine (H1.out _).mono ?_; rintro e w1 ⟨rfl, hb1⟩; have hx := HX.out.kept hb1; have r0 := hx.r.1; have r1 := hx.r.2.1; have y0 := hx.z.c0; have y1 := hx.z.c1; have y2 := hx.z.f0; have y3 := hx.z.f1; have lt1 := hx.z.lt; have HX2 := Lib.hid hx; clear hx hb1)
    obtain ⟨z0, z1, hzb⟩ := HX2.out.z.done 0 0
    refine bodyPost_ret (v := ratRet 0 0 false) ?_ rfl ⟨rfl, hzb⟩
    clear hzb
    generalize (w1.setCell ⟨w.heap.size + 1, 0, none⟩ (.int .i64 0)).setCell ⟨w.heap.size + 1, 1, none⟩ (.int .i64 0) = WF at *
    simp [results, Try.f31, go_sem, z0, z1]
set_option maxRecDepth 100000 in
set_option maxHeartbeats 1000000 in
theorem fairI_ret (i j g : Int) (w : World) : Calls Try.prog 46 #[.int .i64 i, .int .i64 j, .int .i64 g] w (Ret w (ratRet (fvP i j g) (fvQ i j g) (fvOk i j g))) := by
  obtain ⟨W, hW⟩ : ∃ W, W = w.alloc (.cells #[.int .i64 0, .int .i64 0] 25) := ⟨_, rfl⟩
  have hz : w.heap.size + 1 = W.heap.size := by simp [hW]
  have hx : ZBox w w.heap.size W := by rw [hW]; exact ZBox.first w
  have HX := Lib.hid hx
  have HW := Lib.hid hW
  have HZ := Lib.hid hz
  clear hx hz hW
  have H1 : Hid (∀ X : World, Calls Try.prog 71 #[.int .i64 g, .slice (some ⟨X.heap.size, 0, none⟩) 2 2] (X.alloc (.cells #[.int .i64 i, .int .i64 j] 3)) fun e w' => e = .returned (.bool (fvOk i j g)) ∧ Below X.heap.size X w') := Lib.hid (by
    have := play_lit2 g i j
    unfold fvOk
    simpa only [Bool.and_assoc] using this)
  rcases Bool.eq_false_or_eq_true (fvOk i j g) with hok | hok
  · have hb : (1 ≤ g ∧ g ≤ 12) ∧ (1 ≤ i ∧ i ≤ g - 1) ∧ (1 ≤ j ∧ j ≤ g - 1) := by
      unfold fvOk inBd at hok
      simp only [Bool.and_eq_true, decide_eq_true_eq] at hok
      exact ⟨hok.1.1, hok.1.2, hok.2⟩
    obtain ⟨hg, hi, hj⟩ := hb
    have e0 : fvN i j g = 2 * min i j * (g - max i j) := by
      unfold fvN
      rw [show (if j < i then j else i) = min i j by split <;> omega, show (if i < j then j else i) = max i j by split <;> omega]
    have e1 : fvP i j g = numZ (2 * min i j * (g - max i j)) g := by unfold fvP; rw [if_pos hok, e0]
    have e2 : fvQ i j g = denZ (2 * min i j * (g - max i j)) g := by unfold fvQ; rw [if_pos hok, e0]
    have m1 := mul_le_of' (x := 2 * min i j) (y := g - max i j) (A := 24) (B := 12) (by omega) (by omega)
    have HR : Hid (∀ w, Calls Try.prog 60 #[.int .i64 (2 * min i j * (g - max i j)), .int .i64 g] w (Ret w (.agg #[.int .i64 (numZ (2 * min i j * (g - max i j)) g), .int .i64 (denZ (2 * min i j * (g - max i j)) g)]))) := Lib.hid fun w => lowZ_any _ _ w (by omega) (by omega)
    rw [e1, e2]
    rw [hok] at H1 ⊢
    have m2 : 0 ≤ 2 * min i j ∧ 2 * min i j ≤ 24 := by omega
    have m3 : 0 ≤ g - max i j ∧ g - max i j ≤ 12 := by omega
    have m4 : 0 ≤ min i j ∧ min i j ≤ 12 := by omega
    have m5 : 0 ≤ max i j ∧ max i j ≤ 12 := by omega
    generalize numZ (2 * min i j * (g - max i j)) g = x at *
    generalize denZ (2 * min i j * (g - max i j)) g = y at *
    clear e0 e1 e2 hok
    go_enter Try.func46, Try.ntmps46
    go_wp2_with (first | (rw [← HW.out]; rw [HZ.out]; go_at_call 71; refine (H1.out _).mono ?_; rintro e w1 ⟨rfl, hb1⟩; have hx := HX.out.kept hb1; have y0 := hx.c0; have y1 := hx.c1; have y2 := hx.f0; have y3 := hx.f1; have lt1 := hx.lt; have HX2 := Lib.hid hx; clear hx hb1) | (go_at_call 60; refine (HR.out _).mono ?_; rintro e wz ⟨rfl, hbz⟩; have hx := HX2.out.kept hbz; have s0 := hx.c0; have s1 := hx.c1; have s2 := hx.f0; have s3 := hx.f1; have HX3 := Lib.hid hx; clear hx hbz y0 y1 y2 y3))
    obtain ⟨z0, z1, hzb⟩ := HX3.out.done x y
    refine bodyPost_ret (v := ratRet x y true) ?_ rfl ⟨rfl, hzb⟩
    clear hzb
    generalize (wz.setCell ⟨w.heap.size, 0, none⟩ (.int .i64 x)).setCell ⟨w.heap.size, 1, none⟩ (.int .i64 y) = WF at *
    simp [results, Try.f46, go_sem, z0, z1]
  · have e1 : fvP i j g = 0 := by unfold fvP; rw [hok]; rfl
    have e2 : fvQ i j g = 0 := by unfold fvQ; rw [hok]; rfl
    rw [e1, e2]
    rw [hok] at H1 ⊢
    clear e1 e2 hok
    go_enter Try.func46, Try.ntmps46
    go_wp2_with (rw [← HW.out]; rw [HZ.out]; go_at_call 71; refine (H1.out _).mono ?_; rintro e w1 ⟨rfl, hb1⟩; have hx := HX.out.kept hb1; have y0 := hx.c0; have y1 := hx.c1; have y2 := hx.f0; have y3 := hx.f1; have lt1 := hx.lt; have HX2 := Lib.hid hx; clear hx hb1)
    obtain ⟨z0, z1, hzb⟩ := HX2.out.done 0 0
    refine bodyPost_ret (v := ratRet 0 0 false) ?_ rfl ⟨rfl, hzb⟩
    clear hzb
    generalize (w1.setCell ⟨w.heap.size, 0, none⟩ (.int .i64 0)).setCell ⟨w.heap.size, 1, none⟩ (.int .i64 0) = WF at *
    simp [results, Try.f46, go_sem, z0, z1]
end Go.Proofs.Ytfimcadnlhohlaa
