/- The model's WinChance, RuinChance, MeanHeld. -/
import Derived.Test.YtfimcadnlhohlaaRuW
namespace Go.Proofs.Ytfimcadnlhohlaa
open Go.RowKit
set_option linter.unusedVariables false
/-- a function's chance, in its box at the heap's end, and its empty result behind it -/
structure RZ (w : World) (n d : Int) (W : World) : Prop where
  r : RBox w w.heap.size n d W
  z : ZBox w (w.heap.size + 1) W
theorem RZ.kept {w W W' : World} {n d : Int} (h : RZ w n d W) (hb : Below W.heap.size W W') : RZ w n d W' := ⟨h.r.kept hb, h.z.kept hb⟩
theorem RZ.start (w : World) (n d : Int) : RZ w n d ((w.alloc (.cells #[.int .i64 n, .int .i64 d] 25)).alloc (.cells #[.int .i64 0, .int .i64 0] 25)) :=
  ⟨(RBox.start w n d).kept ((Below.refl _ _).alloc (Nat.le_refl _) _), ZBox.start w n d⟩
/-- what a call that returns a ratio and a bool hands back -/
abbrev ratRet (x y : Int) (ok : Bool) : Value := .tuple #[.agg #[.int .i64 x, .int .i64 y], .bool ok]
def waP (i g n d : Int) : Int := if askB i g n d = true then winP i g n d else 0
def waQ (i g n d : Int) : Int := if askB i g n d = true then winQ i g n d else 0
def riP (i g n d : Int) : Int := if askB i g n d = true then numZ (winQ i g n d - winP i g n d) (winQ i g n d) else 0
def riQ (i g n d : Int) : Int := if askB i g n d = true then denZ (winQ i g n d - winP i g n d) (winQ i g n d) else 0
def mhP (i g n d : Int) : Int := if askB i g n d = true then numZ (g * winP i g n d) (winQ i g n d) else 0
def mhQ (i g n d : Int) : Int := if askB i g n d = true then denZ (g * winP i g n d) (winQ i g n d) else 0
set_option maxRecDepth 100000 in
set_option maxHeartbeats 1000000 in
theorem specWin_ret (i g n d : Int) (w : World) : Calls Try.prog 21 #[.int .i64 i, .int .i64 g, .agg #[.int .i64 n, .int .i64 d]] w (Ret w (ratRet (waP i g n d) (waQ i g n d) (askB i g n d))) := by
  have HA : Hid (∀ w, Calls Try.prog 56 #[.int .i64 i, .int .i64 g, .agg #[.int .i64 n, .int .i64 d]] w (Ret w (.bool (askB i g n d)))) := Lib.hid fun w => ruAsked_any i g n d w
  have HX := Lib.hid (RZ.start w n d)
  rcases Bool.eq_false_or_eq_true (askB i g n d) with ha | ha
  · have HWN : Hid (∀ w, Calls Try.prog 57 #[.int .i64 i, .int .i64 g, .agg #[.int .i64 n, .int .i64 d]] w (Ret w (.agg #[.int .i64 (winP i g n d), .int .i64 (winQ i g n d)]))) := Lib.hid fun w => ruWin_any i g n d w ha
    have e1 : waP i g n d = winP i g n d := by unfold waP; rw [if_pos ha]
    have e2 : waQ i g n d = winQ i g n d := by unfold waQ; rw [if_pos ha]
    rw [e1, e2]
    rw [ha] at HA ⊢
    clear e1 e2 ha
    generalize winP i g n d = x at *
    generalize winQ i g n d = y at *
    go_enter Try.func21, Try.ntmps21
    go_wp2_with (first | (go_at_call 56; refine (HA.out _).mono ?_; rintro e wa ⟨rfl, hba⟩; have hx := HX.out.kept hba; have r0 := hx.r.1; have r1 := hx.r.2.1; have y0 := hx.z.c0; have y1 := hx.z.c1; have y2 := hx.z.f0; have y3 := hx.z.f1; have lt1 := hx.z.lt; have HX2 := Lib.hid hx; clear hx hba) | (go_at_call 57; refine (HWN.out _).mono ?_; rintro e ww ⟨rfl, hbw⟩; have hx := HX2.out.kept hbw; have q0 := hx.z.c0; have q1 := hx.z.c1; have q2 := hx.z.f0; have q3 := hx.z.f1; have q4 := hx.r.1; have q5 := hx.r.2.1; have lt2 := hx.z.lt; have HX3 := Lib.hid hx; clear hx hbw r0 r1 y0 y1 y2 y3))
    obtain ⟨z0, z1, hzb⟩ := HX3.out.z.done x y
    refine bodyPost_ret (v := ratRet x y true) ?_ rfl ⟨rfl, hzb⟩
    clear hzb
    generalize (ww.setCell ⟨w.heap.size + 1, 0, none⟩ (.int .i64 x)).setCell ⟨w.heap.size + 1, 1, none⟩ (.int .i64 y) = WF at *
    simp [results, Try.f21, go_sem, z0, z1]
  · have e1 : waP i g n d = 0 := by unfold waP; rw [ha]; rfl
    have e2 : waQ i g n d = 0 := by unfold waQ; rw [ha]; rfl
    rw [e1, e2]
    rw [ha] at HA ⊢
    clear e1 e2 ha
    go_enter Try.func21, Try.ntmps21
    go_wp2_with (go_at_call 56; refine (HA.out _).mono ?_; rintro e wa ⟨rfl, hba⟩; have hx := HX.out.kept hba; have r0 := hx.r.1; have r1 := hx.r.2.1; have y0 := hx.z.c0; have y1 := hx.z.c1; have y2 := hx.z.f0; have y3 := hx.z.f1; have lt1 := hx.z.lt; have HX2 := Lib.hid hx; clear hx hba)
    obtain ⟨z0, z1, hzb⟩ := HX2.out.z.done 0 0
    refine bodyPost_ret (v := ratRet 0 0 false) ?_ rfl ⟨rfl, hzb⟩
    clear hzb
    generalize (wa.setCell ⟨w.heap.size + 1, 0, none⟩ (.int .i64 0)).setCell ⟨w.heap.size + 1, 1, none⟩ (.int .i64 0) = WF at *
    simp [results, Try.f21, go_sem, z0, z1]
set_option maxRecDepth 100000 in
set_option maxHeartbeats 1000000 in
theorem specRuin_ret (i g n d : Int) (w : World) : Calls Try.prog 24 #[.int .i64 i, .int .i64 g, .agg #[.int .i64 n, .int .i64 d]] w (Ret w (ratRet (riP i g n d) (riQ i g n d) (askB i g n d))) := by
  have HA : Hid (∀ w, Calls Try.prog 56 #[.int .i64 i, .int .i64 g, .agg #[.int .i64 n, .int .i64 d]] w (Ret w (.bool (askB i g n d)))) := Lib.hid fun w => ruAsked_any i g n d w
  have HX := Lib.hid (RZ.start w n d)
  rcases Bool.eq_false_or_eq_true (askB i g n d) with ha | ha
  · have HWN : Hid (∀ w, Calls Try.prog 57 #[.int .i64 i, .int .i64 g, .agg #[.int .i64 n, .int .i64 d]] w (Ret w (.agg #[.int .i64 (winP i g n d), .int .i64 (winQ i g n d)]))) := Lib.hid fun w => ruWin_any i g n d w ha
    obtain ⟨bp, bq, _⟩ := win_bd ha
    obtain ⟨bg, bi, bd, bn⟩ := askB_of ha
    have e1 : riP i g n d = numZ (winQ i g n d - winP i g n d) (winQ i g n d) := by unfold riP; rw [if_pos ha]
    have e2 : riQ i g n d = denZ (winQ i g n d - winP i g n d) (winQ i g n d) := by unfold riQ; rw [if_pos ha]
    rw [e1, e2]
    rw [ha] at HA ⊢
    clear e1 e2 ha
    generalize winP i g n d = p at *
    generalize winQ i g n d = q at *

    have HR : Hid (∀ w, Calls Try.prog 62 #[.int .i64 (q - p), .int .i64 (q)] w (Ret w (.agg #[.int .i64 (numZ (q - p) (q)), .int .i64 (denZ (q - p) (q))]))) := Lib.hid fun w => ruRatioZ_any _ _ w (by omega) (by omega)
    generalize numZ (q - p) (q) = x at *
    generalize denZ (q - p) (q) = y at *
    go_enter Try.func24, Try.ntmps24
    go_wp2_with (first | (go_at_call 56; refine (HA.out _).mono ?_; rintro e wa ⟨rfl, hba⟩; have hx := HX.out.kept hba; have r0 := hx.r.1; have r1 := hx.r.2.1; have y0 := hx.z.c0; have y1 := hx.z.c1; have y2 := hx.z.f0; have y3 := hx.z.f1; have lt1 := hx.z.lt; have HX2 := Lib.hid hx; clear hx hba) | (go_at_call 57; refine (HWN.out _).mono ?_; rintro e ww ⟨rfl, hbw⟩; have hx := HX2.out.kept hbw; have q0 := hx.z.c0; have q1 := hx.z.c1; have q2 := hx.z.f0; have q3 := hx.z.f1; have q4 := hx.r.1; have q5 := hx.r.2.1; have lt2 := hx.z.lt; have HX3 := Lib.hid hx; clear hx hbw r0 r1 y0 y1 y2 y3) | (go_at_call 62; refine (HR.out _).mono ?_; rintro e wz ⟨rfl, hbz⟩; have hx := (HX3.out.kept ((Below.refl _ _).alloc (Nat.le_refl _) _)).kept hbz; have s0 := hx.z.c0; have s1 := hx.z.c1; have s2 := hx.z.f0; have s3 := hx.z.f1; have HX4 := Lib.hid hx; clear hx hbz q0 q1 q2 q3 q4 q5))
    obtain ⟨z0, z1, hzb⟩ := HX4.out.z.done x y
    refine bodyPost_ret (v := ratRet x y true) ?_ rfl ⟨rfl, hzb⟩
    clear hzb
    generalize (wz.setCell ⟨w.heap.size + 1, 0, none⟩ (.int .i64 x)).setCell ⟨w.heap.size + 1, 1, none⟩ (.int .i64 y) = WF at *
    simp [results, Try.f24, go_sem, z0, z1]
  · have e1 : riP i g n d = 0 := by unfold riP; rw [ha]; rfl
    have e2 : riQ i g n d = 0 := by unfold riQ; rw [ha]; rfl
    rw [e1, e2]
    rw [ha] at HA ⊢
    clear e1 e2 ha
    go_enter Try.func24, Try.ntmps24
    go_wp2_with (go_at_call 56; refine (HA.out _).mono ?_; rintro e wa ⟨rfl, hba⟩; have hx := HX.out.kept hba; have r0 := hx.r.1; have r1 := hx.r.2.1; have y0 := hx.z.c0; have y1 := hx.z.c1; have y2 := hx.z.f0; have y3 := hx.z.f1; have lt1 := hx.z.lt; have HX2 := Lib.hid hx; clear hx hba)
    obtain ⟨z0, z1, hzb⟩ := HX2.out.z.done 0 0
    refine bodyPost_ret (v := ratRet 0 0 false) ?_ rfl ⟨rfl, hzb⟩
    clear hzb
    generalize (wa.setCell ⟨w.heap.size + 1, 0, none⟩ (.int .i64 0)).setCell ⟨w.heap.size + 1, 1, none⟩ (.int .i64 0) = WF at *
    simp [results, Try.f24, go_sem, z0, z1]
set_option maxRecDepth 100000 in
set_option maxHeartbeats 1000000 in
theorem specMeanHeld_ret (i g n d : Int) (w : World) : Calls Try.prog 28 #[.int .i64 i, .int .i64 g, .agg #[.int .i64 n, .int .i64 d]] w (Ret w (ratRet (mhP i g n d) (mhQ i g n d) (askB i g n d))) := by
  have HA : Hid (∀ w, Calls Try.prog 56 #[.int .i64 i, .int .i64 g, .agg #[.int .i64 n, .int .i64 d]] w (Ret w (.bool (askB i g n d)))) := Lib.hid fun w => ruAsked_any i g n d w
  have HX := Lib.hid (RZ.start w n d)
  rcases Bool.eq_false_or_eq_true (askB i g n d) with ha | ha
  · have HWN : Hid (∀ w, Calls Try.prog 57 #[.int .i64 i, .int .i64 g, .agg #[.int .i64 n, .int .i64 d]] w (Ret w (.agg #[.int .i64 (winP i g n d), .int .i64 (winQ i g n d)]))) := Lib.hid fun w => ruWin_any i g n d w ha
    obtain ⟨bp, bq, _⟩ := win_bd ha
    obtain ⟨bg, bi, bd, bn⟩ := askB_of ha
    have e1 : mhP i g n d = numZ (g * winP i g n d) (winQ i g n d) := by unfold mhP; rw [if_pos ha]
    have e2 : mhQ i g n d = denZ (g * winP i g n d) (winQ i g n d) := by unfold mhQ; rw [if_pos ha]
    rw [e1, e2]
    rw [ha] at HA ⊢
    clear e1 e2 ha
    generalize winP i g n d = p at *
    generalize winQ i g n d = q at *
    have m1 := mul_le_of' (x := g) (y := p) (A := 12) (B := 244140625) (by omega) (by omega)
    have HR : Hid (∀ w, Calls Try.prog 62 #[.int .i64 (g * p), .int .i64 (q)] w (Ret w (.agg #[.int .i64 (numZ (g * p) (q)), .int .i64 (denZ (g * p) (q))]))) := Lib.hid fun w => ruRatioZ_any _ _ w (by omega) (by omega)
    generalize numZ (g * p) (q) = x at *
    generalize denZ (g * p) (q) = y at *
    go_enter Try.func28, Try.ntmps28
    go_wp2_with (first | (go_at_call 56; refine (HA.out _).mono ?_; rintro e wa ⟨rfl, hba⟩; have hx := HX.out.kept hba; have r0 := hx.r.1; have r1 := hx.r.2.1; have y0 := hx.z.c0; have y1 := hx.z.c1; have y2 := hx.z.f0; have y3 := hx.z.f1; have lt1 := hx.z.lt; have HX2 := Lib.hid hx; clear hx hba) | (go_at_call 57; refine (HWN.out _).mono ?_; rintro e ww ⟨rfl, hbw⟩; have hx := HX2.out.kept hbw; have q0 := hx.z.c0; have q1 := hx.z.c1; have q2 := hx.z.f0; have q3 := hx.z.f1; have q4 := hx.r.1; have q5 := hx.r.2.1; have lt2 := hx.z.lt; have HX3 := Lib.hid hx; clear hx hbw r0 r1 y0 y1 y2 y3) | (go_at_call 62; refine (HR.out _).mono ?_; rintro e wz ⟨rfl, hbz⟩; have hx := (HX3.out.kept ((Below.refl _ _).alloc (Nat.le_refl _) _)).kept hbz; have s0 := hx.z.c0; have s1 := hx.z.c1; have s2 := hx.z.f0; have s3 := hx.z.f1; have HX4 := Lib.hid hx; clear hx hbz q0 q1 q2 q3 q4 q5))
    obtain ⟨z0, z1, hzb⟩ := HX4.out.z.done x y
    refine bodyPost_ret (v := ratRet x y true) ?_ rfl ⟨rfl, hzb⟩
    clear hzb
    generalize (wz.setCell ⟨w.heap.size + 1, 0, none⟩ (.int .i64 x)).setCell ⟨w.heap.size + 1, 1, none⟩ (.int .i64 y) = WF at *
    simp [results, Try.f28, go_sem, z0, z1]
  · have e1 : mhP i g n d = 0 := by unfold mhP; rw [ha]; rfl
    have e2 : mhQ i g n d = 0 := by unfold mhQ; rw [ha]; rfl
    rw [e1, e2]
    rw [ha] at HA ⊢
    clear e1 e2 ha
    go_enter Try.func28, Try.ntmps28
    go_wp2_with (go_at_call 56; refine (HA.out _).mono ?_; rintro e wa ⟨rfl, hba⟩; have hx := HX.out.kept hba; have r0 := hx.r.1; have r1 := hx.r.2.1; have y0 := hx.z.c0; have y1 := hx.z.c1; have y2 := hx.z.f0; have y3 := hx.z.f1; have lt1 := hx.z.lt; have HX2 := Lib.hid hx; clear hx hba)
    obtain ⟨z0, z1, hzb⟩ := HX2.out.z.done 0 0
    refine bodyPost_ret (v := ratRet 0 0 false) ?_ rfl ⟨rfl, hzb⟩
    clear hzb
    generalize (wa.setCell ⟨w.heap.size + 1, 0, none⟩ (.int .i64 0)).setCell ⟨w.heap.size + 1, 1, none⟩ (.int .i64 0) = WF at *
    simp [results, Try.f28, go_sem, z0, z1]
end Go.Proofs.Ytfimcadnlhohlaa
