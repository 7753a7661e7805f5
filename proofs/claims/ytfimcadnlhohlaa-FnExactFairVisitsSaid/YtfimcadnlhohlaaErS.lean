/- The model's EverRuined, FairVisits. -/
import Derived.Test.YtfimcadnlhohlaaRzS
namespace Go.Proofs.Ytfimcadnlhohlaa
open Go.RowKit
set_option linter.unusedVariables false
def erOk (i n d : Int) : Bool := inBd 0 12 i && ruB n d
def erP (i n d : Int) : Int := if erOk i n d = true then (if n ≤ d - n then 1 else numZ ((d - n) ^ i.toNat) (n ^ i.toNat)) else 0
def erQ (i n d : Int) : Int := if erOk i n d = true then (if n ≤ d - n then 1 else denZ ((d - n) ^ i.toNat) (n ^ i.toNat)) else 0
set_option maxRecDepth 100000 in
set_option maxHeartbeats 2000000 in
theorem specEver_ret (i n d : Int) (w : World) : Calls Try.prog 30 #[.int .i64 i, .agg #[.int .i64 n, .int .i64 d]] w (Ret w (ratRet (erP i n d) (erQ i n d) (erOk i n d))) := by
  have HI : Hid (∀ w, Calls Try.prog 64 #[.int .i64 i, .int .i64 0, .int .i64 12] w fun e w' => e = .returned (.bool (inBd 0 12 i)) ∧ w = w') := Lib.hid fun w => in_any i 0 12 w
  have HA : Hid (∀ w, Calls Try.prog 53 #[.agg #[.int .i64 n, .int .i64 d]] w (Ret w (.bool (ruB n d)))) := Lib.hid fun w => ruIs_any n d w
  have HX := Lib.hid (RZ.start w n d)
  rcases Bool.eq_false_or_eq_true (inBd 0 12 i) with a1 | a1
  · rcases Bool.eq_false_or_eq_true (ruB n d) with a2 | a2
    · have hok : erOk i n d = true := by unfold erOk; rw [a1, a2]; rfl
      have hi : 0 ≤ i ∧ i ≤ 12 := by unfold inBd at a1; simpa only [Bool.and_eq_true, decide_eq_true_eq] using a1
      obtain ⟨h1, h2, h3, h4⟩ := ruB_of a2
      unfold erP erQ
      simp only [if_pos hok]
      rw [hok]
      rw [a1] at HI
      rw [a2] at HA
      clear hok a1 a2
      by_cases hc : n ≤ d - n
      · simp only [if_pos hc]
        go_enter Try.func30, Try.ntmps30
        go_wp2_with (first | (go_at_call 64; refine (HI.out _).mono ?_; rintro e w' ⟨rfl, rfl⟩) | (go_at_call 53; refine (HA.out _).mono ?_; rintro e wa ⟨rfl, hba⟩; have hx := HX.out.kept hba; have r0 := hx.r.1; have r1 := hx.r.2.1; have y0 := hx.z.c0; have y1 := hx.z.c1; have y2 := hx.z.f0; have y3 := hx.z.f1; have lt1 := hx.z.lt; have HX2 := Lib.hid hx; clear hx hba))
        go_quiet (fail)
        go_wp2_with fail
        obtain ⟨z0, z1, hzb⟩ := (HX2.out.kept (below_drewN (Below.refl _ _) nq)).z.done 1 1
        refine bodyPost_ret (v := ratRet 1 1 true) ?_ rfl ⟨rfl, hzb⟩
        clear hzb
        generalize ((wa.drewN nq).setCell ⟨w.heap.size + 1, 0, none⟩ (.int .i64 1)).setCell ⟨w.heap.size + 1, 1, none⟩ (.int .i64 1) = WF at *
        simp [results, Try.f30, go_sem, z0, z1]
      · simp only [if_neg hc]
        obtain ⟨I, hI⟩ : ∃ I : Nat, i = (I : Int) := ⟨i.toNat, by omega⟩
        have p1 := pow5 (x := n) (by omega) (k := I) (by omega)
        have p2 := pow5 (x := d - n) (by omega) (k := I) (by omega)
        have p3 := pow_pos1 (x := n) (by omega) I
        have P1 : Hid (∀ w, Calls Try.prog 65 #[.int .i64 (d - n), .int .i64 i] w fun e w' => e = .returned (.int .i64 ((d - n) ^ I)) ∧ w = w') := Lib.hid fun w => by rw [hI]; exact ruPower_any (d - n) I w (by omega) (by omega)
        have P2 : Hid (∀ w, Calls Try.prog 65 #[.int .i64 n, .int .i64 i] w fun e w' => e = .returned (.int .i64 (n ^ I)) ∧ w = w') := Lib.hid fun w => by rw [hI]; exact ruPower_any n I w (by omega) (by omega)
        rw [show i.toNat = I by omega]
        clear hI
        generalize n ^ I = u at *
        generalize (d - n) ^ I = v at *
        have HR : Hid (∀ w, Calls Try.prog 62 #[.int .i64 v, .int .i64 u] w (Ret w (.agg #[.int .i64 (numZ v u), .int .i64 (denZ v u)]))) := Lib.hid fun w => ruRatioZ_any v u w (by omega) (by omega)
        generalize numZ v u = x at *
        generalize denZ v u = y at *
        go_enter Try.func30, Try.ntmps30
        go_wp2_with (first | (go_at_call 64; refine (HI.out _).mono ?_; rintro e w' ⟨rfl, rfl⟩) | (go_at_call 53; refine (HA.out _).mono ?_; rintro e wa ⟨rfl, hba⟩; have hx := HX.out.kept hba; have r0 := hx.r.1; have r1 := hx.r.2.1; have y0 := hx.z.c0; have y1 := hx.z.c1; have y2 := hx.z.f0; have y3 := hx.z.f1; have lt1 := hx.z.lt; have HX2 := Lib.hid hx; clear hx hba))
        go_quiet (fail)
        go_wp2_with fail
        refine (P1.out _).mono ?_
        rintro e w' ⟨rfl, rfl⟩
        go_wp2_with fail
        refine (P2.out _).mono ?_
        rintro e w' ⟨rfl, rfl⟩
        go_wp2_with (go_at_call 62; refine (HR.out _).mono ?_; rintro e wz ⟨rfl, hbz⟩; have hx := (HX2.out.kept (below_drewN (Below.refl _ _) nq)).kept hbz; have s0 := hx.z.c0; have s1 := hx.z.c1; have s2 := hx.z.f0; have s3 := hx.z.f1; have HX4 := Lib.hid hx; clear hx hbz r0 r1 y0 y1 y2 y3)
        obtain ⟨z0, z1, hzb⟩ := HX4.out.z.done x y
        refine bodyPost_ret (v := ratRet x y true) ?_ rfl ⟨rfl, hzb⟩
        clear hzb
        generalize (wz.setCell ⟨w.heap.size + 1, 0, none⟩ (.int .i64 x)).setCell ⟨w.heap.size + 1, 1, none⟩ (.int .i64 y) = WF at *
        simp [results, Try.f30, go_sem, z0, z1]
    · have hok : erOk i n d = false := by unfold erOk; rw [a1, a2]; rfl
      have e1 : erP i n d = 0 := by unfold erP; rw [hok]; rfl
      have e2 : erQ i n d = 0 := by unfold erQ; rw [hok]; rfl
      rw [e1, e2, hok]
      rw [a1] at HI
      rw [a2] at HA
      clear e1 e2 hok a1 a2
      go_enter Try.func30, Try.ntmps30
      go_wp2_with (first | (go_at_call 64; refine (HI.out _).mono ?_; rintro e w' ⟨rfl, rfl⟩) | (go_at_call 53; refine (HA.out _).mono ?_; rintro e wa ⟨rfl, hba⟩; have hx := HX.out.kept hba; have r0 := hx.r.1; have r1 := hx.r.2.1; have y0 := hx.z.c0; have y1 := hx.z.c1; have y2 := hx.z.f0; have y3 := hx.z.f1; have lt1 := hx.z.lt; have HX2 := Lib.hid hx; clear hx hba))
      obtain ⟨z0, z1, hzb⟩ := HX2.out.z.done 0 0
      refine bodyPost_ret (v := ratRet 0 0 false) ?_ rfl ⟨rfl, hzb⟩
      clear hzb
      generalize (wa.setCell ⟨w.heap.size + 1, 0, none⟩ (.int .i64 0)).setCell ⟨w.heap.size + 1, 1, none⟩ (.int .i64 0) = WF at *
      simp [results, Try.f30, go_sem, z0, z1]
  · have hok : erOk i n d = false := by unfold erOk; rw [a1]; rfl
    have e1 : erP i n d = 0 := by unfold erP; rw [hok]; rfl
    have e2 : erQ i n d = 0 := by unfold erQ; rw [hok]; rfl
    rw [e1, e2, hok]
    rw [a1] at HI
    clear e1 e2 hok a1
    have hzb := HX.out.z.below
    go_enter Try.func30, Try.ntmps30
    go_wp2_with (go_at_call 64; refine (HI.out _).mono ?_; rintro e w' ⟨rfl, rfl⟩)
    exact bodyPost_ret (v := ratRet 0 0 false) (by simp [results, Try.f30, go_sem]) rfl ⟨rfl, hzb⟩
def fvOk (i j g : Int) : Bool := (inBd 1 12 g && inBd 1 (g - 1) i) && inBd 1 (g - 1) j
def fvN (i j g : Int) : Int := 2 * (if j < i then j else i) * (g - (if i < j then j else i))
def fvP (i j g : Int) : Int := if fvOk i j g = true then numZ (fvN i j g) g else 0
def fvQ (i j g : Int) : Int := if fvOk i j g = true then denZ (fvN i j g) g else 0
theorem ZBox.first (w : World) : ZBox w w.heap.size (w.alloc (.cells #[.int .i64 0, .int .i64 0] 25)) :=
  ⟨by simp [go_sem], by simp [go_sem], by simp [go_sem], by simp [go_sem], by simp, Nat.le_refl _, (Below.refl _ _).alloc (Nat.le_refl _) _⟩
set_option maxRecDepth 100000 in
set_option maxHeartbeats 1000000 in
theorem specFair_ret (i j g : Int) (w : World) : Calls Try.prog 45 #[.int .i64 i, .int .i64 j, .int .i64 g] w (Ret w (ratRet (fvP i j g) (fvQ i j g) (fvOk i j g))) := by
  have H1 : Hid (∀ w, Calls Try.prog 64 #[.int .i64 g, .int .i64 1, .int .i64 12] w fun e w' => e = .returned (.bool (inBd 1 12 g)) ∧ w = w') := Lib.hid fun w => in_any g 1 12 w
  have H2 : Hid (∀ w, Calls Try.prog 64 #[.int .i64 i, .int .i64 1, .int .i64 (g - 1)] w fun e w' => e = .returned (.bool (inBd 1 (g - 1) i)) ∧ w = w') := Lib.hid fun w => in_any i 1 (g - 1) w
  have H3 : Hid (∀ w, Calls Try.prog 64 #[.int .i64 j, .int .i64 1, .int .i64 (g - 1)] w fun e w' => e = .returned (.bool (inBd 1 (g - 1) j)) ∧ w = w') := Lib.hid fun w => in_any j 1 (g - 1) w
  have HZ := Lib.hid (ZBox.first w)
  have hzb := HZ.out.below
  rcases Bool.eq_false_or_eq_true (inBd 1 12 g) with a1 | a1
  · have hg : 1 ≤ g ∧ g ≤ 12 := by unfold inBd at a1; simpa only [Bool.and_eq_true, decide_eq_true_eq] using a1
    rcases Bool.eq_false_or_eq_true (inBd 1 (g - 1) i) with a2 | a2
    · have hi : 1 ≤ i ∧ i ≤ g - 1 := by unfold inBd at a2; simpa only [Bool.and_eq_true, decide_eq_true_eq] using a2
      rcases Bool.eq_false_or_eq_true (inBd 1 (g - 1) j) with a3 | a3
      · have hj : 1 ≤ j ∧ j ≤ g - 1 := by unfold inBd at a3; simpa only [Bool.and_eq_true, decide_eq_true_eq] using a3
        have hok : fvOk i j g = true := by unfold fvOk; rw [a1, a2, a3]; rfl
        have e1 : fvP i j g = numZ (fvN i j g) g := by unfold fvP; rw [if_pos hok]
        have e2 : fvQ i j g = denZ (fvN i j g) g := by unfold fvQ; rw [if_pos hok]
        rw [e1, e2, hok]
        rw [a1] at H1
        rw [a2] at H2
        rw [a3] at H3
        have HLE : Hid (∀ w, Calls Try.prog 72 #[.int .i64 i, .int .i64 j] w fun e w' => e = .returned (.int .i64 (if j < i then j else i)) ∧ w = w') := Lib.hid fun w => least_any i j w
        have HMO : Hid (∀ w, Calls Try.prog 73 #[.int .i64 i, .int .i64 j] w fun e w' => e = .returned (.int .i64 (if i < j then j else i)) ∧ w = w') := Lib.hid fun w => most_any i j w
        unfold fvN
        have l1 : 1 ≤ (if j < i then j else i) ∧ (if j < i then j else i) ≤ 12 := by split <;> omega
        have l2 : 1 ≤ (if i < j then j else i) ∧ (if i < j then j else i) ≤ g - 1 := by split <;> omega
        generalize (if j < i then j else i) = a at *
        generalize (if i < j then j else i) = b at *
        have m1 := mul_le_of' (x := 2 * a) (y := g - b) (A := 24) (B := 12) (by omega) (by omega)
        have HR : Hid (∀ w, Calls Try.prog 62 #[.int .i64 (2 * a * (g - b)), .int .i64 g] w (Ret w (.agg #[.int .i64 (numZ (2 * a * (g - b)) g), .int .i64 (denZ (2 * a * (g - b)) g)]))) := Lib.hid fun w => ruRatioZ_any _ g w (by omega) (by omega)
        generalize numZ (2 * a * (g - b)) g = x at *
        generalize denZ (2 * a * (g - b)) g = y at *
        clear hok e1 e2 a1 a2 a3 hzb
        go_enter Try.func45, Try.ntmps45
        go_wp2_with fail
        refine (H1.out _).mono ?_
        rintro e w' ⟨rfl, rfl⟩
        go_wp2_with fail
        refine (H2.out _).mono ?_
        rintro e w' ⟨rfl, rfl⟩
        go_wp2_with fail
        refine (H3.out _).mono ?_
        rintro e w' ⟨rfl, rfl⟩
        go_wp2_with (first | (go_at_call 72; refine (HLE.out _).mono ?_; rintro e w' ⟨rfl, rfl⟩) | (go_at_call 73; refine (HMO.out _).mono ?_; rintro e w' ⟨rfl, rfl⟩) | (go_at_call 62; refine (HR.out _).mono ?_; rintro e wz ⟨rfl, hbz⟩; have hx := HZ.out.kept hbz; have s0 := hx.c0; have s1 := hx.c1; have s2 := hx.f0; have s3 := hx.f1; have HX4 := Lib.hid hx; clear hx hbz))
        obtain ⟨z0, z1, hzb⟩ := HX4.out.done x y
        refine bodyPost_ret (v := ratRet x y true) ?_ rfl ⟨rfl, hzb⟩
        clear hzb
        generalize (wz.setCell ⟨w.heap.size, 0, none⟩ (.int .i64 x)).setCell ⟨w.heap.size, 1, none⟩ (.int .i64 y) = WF at *
        simp [results, Try.f45, go_sem, z0, z1]
      · have hok : fvOk i j g = false := by unfold fvOk; rw [a1, a2, a3]; rfl
        have e1 : fvP i j g = 0 := by unfold fvP; rw [hok]; rfl
        have e2 : fvQ i j g = 0 := by unfold fvQ; rw [hok]; rfl
        rw [e1, e2, hok]
        rw [a1] at H1
        rw [a2] at H2
        rw [a3] at H3
        clear hok e1 e2 a1 a2 a3
        go_enter Try.func45, Try.ntmps45
        go_wp2_with fail
        refine (H1.out _).mono ?_
        rintro e w' ⟨rfl, rfl⟩
        go_wp2_with fail
        refine (H2.out _).mono ?_
        rintro e w' ⟨rfl, rfl⟩
        go_wp2_with fail
        refine (H3.out _).mono ?_
        rintro e w' ⟨rfl, rfl⟩
        go_wp2_with fail
        exact bodyPost_ret (v := ratRet 0 0 false) (by simp [results, Try.f45, go_sem]) rfl ⟨rfl, hzb⟩
    · have hok : fvOk i j g = false := by unfold fvOk; rw [a1, a2]; rfl
      have e1 : fvP i j g = 0 := by unfold fvP; rw [hok]; rfl
      have e2 : fvQ i j g = 0 := by unfold fvQ; rw [hok]; rfl
      rw [e1, e2, hok]
      rw [a1] at H1
      rw [a2] at H2
      clear hok e1 e2 a1 a2
      go_enter Try.func45, Try.ntmps45
      go_wp2_with fail
      refine (H1.out _).mono ?_
      rintro e w' ⟨rfl, rfl⟩
      go_wp2_with fail
      refine (H2.out _).mono ?_
      rintro e w' ⟨rfl, rfl⟩
      go_wp2_with fail
      exact bodyPost_ret (v := ratRet 0 0 false) (by simp [results, Try.f45, go_sem]) rfl ⟨rfl, hzb⟩
  · have hok : fvOk i j g = false := by unfold fvOk; rw [a1]; rfl
    have e1 : fvP i j g = 0 := by unfold fvP; rw [hok]; rfl
    have e2 : fvQ i j g = 0 := by unfold fvQ; rw [hok]; rfl
    rw [e1, e2, hok]
    rw [a1] at H1
    clear hok e1 e2 a1
    go_enter Try.func45, Try.ntmps45
    go_wp2_with fail
    refine (H1.out _).mono ?_
    rintro e w' ⟨rfl, rfl⟩
    go_wp2_with fail
    exact bodyPost_ret (v := ratRet 0 0 false) (by simp [results, Try.f45, go_sem]) rfl ⟨rfl, hzb⟩
end Go.Proofs.Ytfimcadnlhohlaa
