/- The program's RuinChance, MeanHeld. -/
import Derived.Test.YtfimcadnlhohlaaWinI
namespace Go.Proofs.Ytfimcadnlhohlaa
open Go.RowKit
set_option linter.unusedVariables false
/-- a chance, a result behind it, and a ratio in a box of its own -/
structure RW (w : World) (n d : Int) (b : Nat) (p q : Int) (X : World) : Prop where
  ra : RA w n d X
  qb : QB b p q X
  lo : w.heap.size + 1 < b
theorem RW.kept {w X X' : World} {n d p q : Int} {b : Nat} (h : RW w n d b p q X) (hb : Below X.heap.size X X') : RW w n d b p q X' := ⟨h.ra.kept hb, h.qb.below hb, h.lo⟩
theorem RW.done {w X : World} {n d p q : Int} {b : Nat} (h : RW w n d b p q X) (x y : Int) : RW w n d b p q ((X.setCell ⟨w.heap.size + 1, 0, none⟩ (.int .i64 x)).setCell ⟨w.heap.size + 1, 1, none⟩ (.int .i64 y)) := by
  have hl := h.lo
  refine ⟨(h.ra.done x y).2.2, ⟨?_, ?_, by simpa [World.setCell] using h.qb.lt⟩, h.lo⟩
  · rw [World.cell?_setCell_other _ _ _ _ (by intro e; injection e with e; omega), World.cell?_setCell_other _ _ _ _ (by intro e; injection e with e; omega)]
    exact h.qb.c0
  · rw [World.cell?_setCell_other _ _ _ _ (by intro e; injection e with e; omega), World.cell?_setCell_other _ _ _ _ (by intro e; injection e with e; omega)]
    exact h.qb.c1
theorem RW.start {w ww : World} {n d : Int} (h : RZ w n d ww) (p q : Int) : RW w n d ww.heap.size p q (ww.alloc (.cells #[.int .i64 p, .int .i64 q] 25)) :=
  ⟨(RA.of h).kept ((Below.refl _ _).alloc (Nat.le_refl _) _), QB.new ww p q _, h.z.lt⟩
def RWS (w : World) (n d : Int) (b : Nat) (p q : Int) (X : World) : Prop := X.cell? ⟨b, 0, none⟩ = some (.int .i64 p) ∧ X.cell? ⟨b, 1, none⟩ = some (.int .i64 q) ∧ RW w n d b p q X
theorem rwOf {w X : World} {n d p q : Int} {b : Nat} (h : X.cell? ⟨b, 0, none⟩ = some (.int .i64 p) ∧ X.cell? ⟨b, 1, none⟩ = some (.int .i64 q) ∧ RW w n d b p q X) : RW w n d b p q X := h.2.2
theorem rwMk {w X : World} {n d p q : Int} {b : Nat} (h : RW w n d b p q X) : X.cell? ⟨b, 0, none⟩ = some (.int .i64 p) ∧ X.cell? ⟨b, 1, none⟩ = some (.int .i64 q) ∧ RW w n d b p q X := ⟨h.qb.c0, h.qb.c1, h⟩
theorem rwKeep {w X X' : World} {n d p q : Int} {b : Nat} (h : X.cell? ⟨b, 0, none⟩ = some (.int .i64 p) ∧ X.cell? ⟨b, 1, none⟩ = some (.int .i64 q) ∧ RW w n d b p q X) (hb : Below X.heap.size X X') : X'.cell? ⟨b, 0, none⟩ = some (.int .i64 p) ∧ X'.cell? ⟨b, 1, none⟩ = some (.int .i64 q) ∧ RW w n d b p q X' := rwMk (h.2.2.kept hb)
theorem rwStore {w X : World} {n d p q : Int} {b : Nat} (x y : Int) (h : X.cell? ⟨b, 0, none⟩ = some (.int .i64 p) ∧ X.cell? ⟨b, 1, none⟩ = some (.int .i64 q) ∧ RW w n d b p q X) :
    ((X.setCell ⟨w.heap.size + 1, 0, none⟩ (.int .i64 x)).setCell ⟨w.heap.size + 1, 1, none⟩ (.int .i64 y)).cell? ⟨b, 0, none⟩ = some (.int .i64 p) ∧ ((X.setCell ⟨w.heap.size + 1, 0, none⟩ (.int .i64 x)).setCell ⟨w.heap.size + 1, 1, none⟩ (.int .i64 y)).cell? ⟨b, 1, none⟩ = some (.int .i64 q) ∧ RW w n d b p q ((X.setCell ⟨w.heap.size + 1, 0, none⟩ (.int .i64 x)).setCell ⟨w.heap.size + 1, 1, none⟩ (.int .i64 y)) := rwMk (h.2.2.done x y)
theorem ZBox.done2 {w W : World} {b : Nat} (h : ZBox w b W) (x y : Int) (o : Obj) :
    (((W.setCell ⟨b, 0, none⟩ (.int .i64 x)).setCell ⟨b, 1, none⟩ (.int .i64 y)).alloc o).cell? ⟨b, 0, none⟩ = some (.int .i64 x) ∧ (((W.setCell ⟨b, 0, none⟩ (.int .i64 x)).setCell ⟨b, 1, none⟩ (.int .i64 y)).alloc o).cell? ⟨b, 1, none⟩ = some (.int .i64 y) ∧
    Below w.heap.size w (((W.setCell ⟨b, 0, none⟩ (.int .i64 x)).setCell ⟨b, 1, none⟩ (.int .i64 y)).alloc o) := by
  obtain ⟨h1, h2, h3⟩ := h.done x y
  have hs : b < ((W.setCell ⟨b, 0, none⟩ (.int .i64 x)).setCell ⟨b, 1, none⟩ (.int .i64 y)).heap.size := by simpa [World.setCell] using h.lt
  generalize (W.setCell ⟨b, 0, none⟩ (.int .i64 x)).setCell ⟨b, 1, none⟩ (.int .i64 y) = X at *
  have hb : Below X.heap.size X (X.alloc o) := (Below.refl _ _).alloc (Nat.le_refl _) _
  exact ⟨(hb.cell (p := ⟨b, 0, none⟩) hs).trans h1, (hb.cell (p := ⟨b, 1, none⟩) hs).trans h2, h3.trans (hb.mono h3.size)⟩
set_option maxRecDepth 100000 in
set_option maxHeartbeats 1000000 in
theorem ruinI_ret (i g n d : Int) (w : World) : Calls Try.prog 25 #[.int .i64 i, .int .i64 g, .agg #[.int .i64 n, .int .i64 d]] w (Ret w (ratRet (riP i g n d) (riQ i g n d) (askB i g n d))) := by
  have HWN : Hid (∀ w, Calls Try.prog 22 #[.int .i64 i, .int .i64 g, .agg #[.int .i64 n, .int .i64 d]] w (Ret w (ratRet (waP i g n d) (waQ i g n d) (askB i g n d)))) := Lib.hid fun w => winI_ret i g n d w
  have HX := Lib.hid (RZ.start w n d)
  rcases Bool.eq_false_or_eq_true (askB i g n d) with ha | ha
  · obtain ⟨bp, bq, _⟩ := win_bd ha
    have w1 : waP i g n d = winP i g n d := by unfold waP; rw [if_pos ha]
    have w2 : waQ i g n d = winQ i g n d := by unfold waQ; rw [if_pos ha]
    have e1 : riP i g n d = numZ (winQ i g n d - winP i g n d) (winQ i g n d) := by unfold riP; rw [if_pos ha]
    have e2 : riQ i g n d = denZ (winQ i g n d - winP i g n d) (winQ i g n d) := by unfold riQ; rw [if_pos ha]
    have hle := win_le ha
    rw [e1, e2]
    rw [ha, w1, w2] at HWN
    rw [ha]
    clear e1 e2 ha w1 w2
    generalize winP i g n d = p at *
    generalize winQ i g n d = q at *
    have HRE : Hid (∀ w, Calls Try.prog 63 #[.agg #[.int .i64 p, .int .i64 q]] w (Ret w (.int .i64 (q - p)))) := Lib.hid fun w => rest_any p q w (by omega)
    have HR : Hid (∀ w, Calls Try.prog 60 #[.int .i64 (q - p), .int .i64 (q)] w (Ret w (.agg #[.int .i64 (numZ (q - p) (q)), .int .i64 (denZ (q - p) (q))]))) := Lib.hid fun w => lowZ_any _ _ w (by omega) (by omega)
    generalize numZ (q - p) (q) = x at *
    generalize denZ (q - p) (q) = y at *
    go_enter Try.func25, Try.ntmps25
    go_wp2_with (go_at_call 22; refine (HWN.out _).mono ?_; rintro e ww ⟨rfl, hbw⟩; have hx := HX.out.kept hbw; have r0 := hx.r.1; have r1 := hx.r.2.1; have y0 := hx.z.c0; have y1 := hx.z.c1; have y2 := hx.z.f0; have y3 := hx.z.f1; have lt1 := hx.z.lt; have HX2 := Lib.hid hx; clear hx hbw)
    have HRW := Lib.hid ((RW.start HX2.out p q).kept (Below.refl _ _).drew)
    clear r0 r1 y0 y1 y2 y3
    go_region_held3 (fun X => X.cell? ⟨ww.heap.size, 0, none⟩ = some (.int .i64 p) ∧ X.cell? ⟨ww.heap.size, 1, none⟩ = some (.int .i64 q) ∧ RW w n d ww.heap.size p q X) (first | exact rwMk HRW.out | assumption | exact rwKeep (by assumption) (by assumption) | exact rwStore _ _ (by assumption)) (first | (go_at_call 63; refine (HRE.out _).mono ?_; rintro e w4 ⟨rfl, hb4⟩) | (go_at_call 60; refine (HR.out _).mono ?_; rintro e wz ⟨rfl, hbz⟩; have hz := (RA.kept (rwOf (by assumption)).ra hbz); obtain ⟨u0, s0⟩ := hz.c0; obtain ⟨u1, s1⟩ := hz.c1; have s2 := hz.f0; have s3 := hz.f1; have HZ := Lib.hid hz; clear hz))
    all_goals
      go_wp2_with fail
      obtain ⟨z0, z1, hzb⟩ := HZ.out.done x y
      refine bodyPost_ret (v := ratRet x y true) ?_ rfl ⟨rfl, hzb.r.2.2.2⟩
      clear hzb
      generalize (wz.setCell ⟨w.heap.size + 1, 0, none⟩ (.int .i64 x)).setCell ⟨w.heap.size + 1, 1, none⟩ (.int .i64 y) = WF at *
      simp [results, Try.f25, go_sem, z0, z1]
  · have e1 : riP i g n d = 0 := by unfold riP; rw [ha]; rfl
    have e2 : riQ i g n d = 0 := by unfold riQ; rw [ha]; rfl
    have w1 : waP i g n d = 0 := by unfold waP; rw [ha]; rfl
    have w2 : waQ i g n d = 0 := by unfold waQ; rw [ha]; rfl
    rw [e1, e2]
    rw [ha, w1, w2] at HWN
    rw [ha]
    clear e1 e2 ha w1 w2
    go_enter Try.func25, Try.ntmps25
    go_wp2_with (go_at_call 22; refine (HWN.out _).mono ?_; rintro e ww ⟨rfl, hbw⟩; have hx := HX.out.kept hbw; have r0 := hx.r.1; have r1 := hx.r.2.1; have y0 := hx.z.c0; have y1 := hx.z.c1; have y2 := hx.z.f0; have y3 := hx.z.f1; have lt1 := hx.z.lt; have HX2 := Lib.hid hx; clear hx hbw)
    obtain ⟨z0, z1, hzb⟩ := HX2.out.z.done2 0 0 (.cells #[.int .i64 0, .int .i64 0] 25)
    refine bodyPost_ret (v := ratRet 0 0 false) ?_ rfl ⟨rfl, hzb⟩
    clear hzb
    generalize ((ww.setCell ⟨w.heap.size + 1, 0, none⟩ (.int .i64 0)).setCell ⟨w.heap.size + 1, 1, none⟩ (.int .i64 0)).alloc (.cells #[.int .i64 0, .int .i64 0] 25) = WF at *
    simp [results, Try.f25, go_sem, z0, z1]
set_option maxRecDepth 100000 in
set_option maxHeartbeats 1000000 in
theorem meanHeldI_ret (i g n d : Int) (w : World) : Calls Try.prog 29 #[.int .i64 i, .int .i64 g, .agg #[.int .i64 n, .int .i64 d]] w (Ret w (ratRet (mhP i g n d) (mhQ i g n d) (askB i g n d))) := by
  have HWN : Hid (∀ w, Calls Try.prog 22 #[.int .i64 i, .int .i64 g, .agg #[.int .i64 n, .int .i64 d]] w (Ret w (ratRet (waP i g n d) (waQ i g n d) (askB i g n d)))) := Lib.hid fun w => winI_ret i g n d w
  have HX := Lib.hid (RZ.start w n d)
  rcases Bool.eq_false_or_eq_true (askB i g n d) with ha | ha
  · obtain ⟨bp, bq, _⟩ := win_bd ha
    obtain ⟨bg, bi, bd, bn⟩ := askB_of ha
    have w1 : waP i g n d = winP i g n d := by unfold waP; rw [if_pos ha]
    have w2 : waQ i g n d = winQ i g n d := by unfold waQ; rw [if_pos ha]
    have e1 : mhP i g n d = numZ (g * winP i g n d) (winQ i g n d) := by unfold mhP; rw [if_pos ha]
    have e2 : mhQ i g n d = denZ (g * winP i g n d) (winQ i g n d) := by unfold mhQ; rw [if_pos ha]
    rw [e1, e2]
    rw [ha, w1, w2] at HWN
    rw [ha]
    clear e1 e2 ha w1 w2
    generalize winP i g n d = p at *
    generalize winQ i g n d = q at *
    have m1 := mul_le_of' (x := g) (y := p) (A := 12) (B := 244140625) (by omega) (by omega)
    have HR : Hid (∀ w, Calls Try.prog 60 #[.int .i64 (g * p), .int .i64 (q)] w (Ret w (.agg #[.int .i64 (numZ (g * p) q), .int .i64 (denZ (g * p) q)]))) := Lib.hid fun w => lowZ_any _ _ w (by omega) (by omega)
    generalize numZ (g * p) q = x at *
    generalize denZ (g * p) q = y at *
    go_enter Try.func29, Try.ntmps29
    go_wp2_with (first | (go_at_call 22; refine (HWN.out _).mono ?_; rintro e ww ⟨rfl, hbw⟩; have hx := HX.out.kept hbw; have HX2 := Lib.hid hx; have r0 := hx.r.1; have r1 := hx.r.2.1; have y0 := hx.z.c0; have y1 := hx.z.c1; have y2 := hx.z.f0; have y3 := hx.z.f1; have lt1 := hx.z.lt; have HRW := Lib.hid (RW.start hx p q); clear hx hbw) | (go_at_call 60; refine (HR.out _).mono ?_; rintro e wz ⟨rfl, hbz⟩; have hz := HRW.out.ra.kept hbz; obtain ⟨u0, s0⟩ := hz.c0; obtain ⟨u1, s1⟩ := hz.c1; have s2 := hz.f0; have s3 := hz.f1; have HZ := Lib.hid hz; clear hz))
    all_goals
      go_wp2_with fail
      obtain ⟨z0, z1, hzb⟩ := HZ.out.done x y
      refine bodyPost_ret (v := ratRet x y true) ?_ rfl ⟨rfl, hzb.r.2.2.2⟩
      clear hzb
      generalize (wz.setCell ⟨w.heap.size + 1, 0, none⟩ (.int .i64 x)).setCell ⟨w.heap.size + 1, 1, none⟩ (.int .i64 y) = WF at *
      simp [results, Try.f29, go_sem, z0, z1]
  · have e1 : mhP i g n d = 0 := by unfold mhP; rw [ha]; rfl
    have e2 : mhQ i g n d = 0 := by unfold mhQ; rw [ha]; rfl
    have w1 : waP i g n d = 0 := by unfold waP; rw [ha]; rfl
    have w2 : waQ i g n d = 0 := by unfold waQ; rw [ha]; rfl
    rw [e1, e2]
    rw [ha, w1, w2] at HWN
    rw [ha]
    clear e1 e2 ha w1 w2
    go_enter Try.func29, Try.ntmps29
    go_wp2_with (go_at_call 22; refine (HWN.out _).mono ?_; rintro e ww ⟨rfl, hbw⟩; have hx := HX.out.kept hbw; have r0 := hx.r.1; have r1 := hx.r.2.1; have y0 := hx.z.c0; have y1 := hx.z.c1; have y2 := hx.z.f0; have y3 := hx.z.f1; have lt1 := hx.z.lt; have HX2 := Lib.hid hx; clear hx hbw)
    obtain ⟨z0, z1, hzb⟩ := HX2.out.z.done2 0 0 (.cells #[.int .i64 0, .int .i64 0] 25)
    refine bodyPost_ret (v := ratRet 0 0 false) ?_ rfl ⟨rfl, hzb⟩
    clear hzb
    generalize ((ww.setCell ⟨w.heap.size + 1, 0, none⟩ (.int .i64 0)).setCell ⟨w.heap.size + 1, 1, none⟩ (.int .i64 0)).alloc (.cells #[.int .i64 0, .int .i64 0] 25) = WF at *
    simp [results, Try.f29, go_sem, z0, z1]
end Go.Proofs.Ytfimcadnlhohlaa
