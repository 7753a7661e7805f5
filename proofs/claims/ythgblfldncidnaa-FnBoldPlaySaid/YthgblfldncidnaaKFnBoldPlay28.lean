/- Pack 28 of what FnBoldPlay needs: WinI, RuinI. -/
import Derived.Test.YthgblfldncidnaaKFnBoldPlay27
/- The program's WinChance, RuinChance, MeanHeld. -/
namespace Go.Proofs.Ythgblfldncidnaa
open Go.RowKit
set_option linter.unusedVariables false
theorem sumK_fr (F : Nat → Int) (m : Nat) : ∀ k, k ≤ m → sumK (fr F m) k = sumTo F k
  | 0, _ => rfl
  | k + 1, h => by
    show sumTo (fun j => (fr F m).getD j 0) k + (fr F m).getD k 0 = sumTo F k + F k
    rw [fr_get _ _ _ (by omega)]
    have := sumK_fr F m k (by omega)
    unfold sumK at this
    rw [this]
/-- the first k of a row -/
theorem RInts.pre {w : World} {B g c m : Nat} {F : Nat → Int} (hr : IRow w B (.slice (some ⟨g, 0, none⟩) m c) (fr F m)) {k : Nat} (hk : k ≤ m) : RInts w (.slice (some ⟨g, 0, none⟩) k c) (fr F k) := by
  have h0 := RInts.of_row hr
  have hroom := h0.room _ _ _ rfl
  refine ⟨⟨_, _, by rw [fr_length]⟩, fun A n c' e => by injection e with e1 e2 e3; subst e2 e3; exact ⟨by omega, hroom.2⟩, fun hx => ?_⟩
  rw [fr_length] at hx ⊢
  refine ⟨g, 0, c, rfl, hr.lt.2, fun j hj => ?_⟩
  have := hr.cell (j := j) (by rw [fr_length]; omega)
  rw [fr_get _ _ _ (by omega)] at this ⊢
  rw [Nat.zero_add]
  exact this
theorem sumPre {F : Nat → Int} {m k : Nat} (hk : k ≤ m) (hm : m ≤ 1000) (hb : ∀ j, j ≤ m → 0 ≤ sumTo F j ∧ sumTo F j ≤ 9000000000000000000) {X : World} {B g c : Nat} (hr : IRow X B (.slice (some ⟨g, 0, none⟩) m c) (fr F m)) :
    Calls Try.prog 27 #[.slice (some ⟨g, 0, none⟩) k c] X fun e w' => e = .returned (.int .i64 (sumTo F k)) ∧ X = w' := by
  have h := sumInts_any _ (fr F k) X (RInts.pre hr hk) (by rw [fr_length]; omega) (fun j hj => by
    rw [fr_length] at hj
    rw [sumK_fr F k j hj]
    exact hb j (by omega))
  rwa [fr_length, sumK_fr F k k (Nat.le_refl _)] at h
theorem rowCap {F : Nat → Int} {m : Nat} {X : World} {B g c : Nat} (hr : IRow X B (.slice (some ⟨g, 0, none⟩) m c) (fr F m)) : m ≤ c ∧ c ≤ maxLen := (RInts.of_row hr).room _ _ _ rfl
set_option maxRecDepth 100000 in
set_option maxHeartbeats 2000000 in
theorem winI_ret (i g n d : Int) (w : World) : Calls Try.prog 8 #[.int .i64 i, .int .i64 g, .agg #[.int .i64 n, .int .i64 d]] w (Ret w (ratRet (waP i g n d) (waQ i g n d) (askB i g n d))) := by
  have HA : Hid (∀ w, Calls Try.prog 18 #[.int .i64 i, .int .i64 g, .agg #[.int .i64 n, .int .i64 d]] w (Ret w (.bool (askB i g n d)))) := Lib.hid fun w => isPlay_ret i g n d w
  have HX := Lib.hid (RZ.start w n d)
  rcases Bool.eq_false_or_eq_true (askB i g n d) with ha | ha
  · have hwr := win_rs ha
    have e1 : waP i g n d = winP i g n d := by unfold waP; rw [if_pos ha]
    have e2 : waQ i g n d = winQ i g n d := by unfold waQ; rw [if_pos ha]
    rw [e1, e2, hwr.1, hwr.2]
    obtain ⟨bg, bi, bd, bn⟩ := askB_of ha
    rw [ha] at HA ⊢
    clear e1 e2 ha hwr
    obtain ⟨I, rfl⟩ := Int.eq_ofNat_of_zero_le bi.1
    obtain ⟨G, rfl⟩ := Int.eq_ofNat_of_zero_le (show 0 ≤ g by omega)
    simp only [Int.toNat_natCast]
    have HRT : Hid (∀ w, Calls Try.prog 26 #[.int .i64 (G : Int), .agg #[.int .i64 n, .int .i64 d]] w (IntsNew w (fr (rsF G n d) G))) := Lib.hid fun w => risesTo_any G n d w (by omega) (by omega) (by omega) (by omega)
    have hsb : ∀ j, j ≤ G → 0 ≤ sumTo (rsF G n d) j ∧ sumTo (rsF G n d) j ≤ 9000000000000000000 := fun j hj => by
      have := rsS_bd (g := G) (n := n) (d := d) (m := j) (by omega) (by omega) (by omega) (by omega) hj
      unfold rsS at this
      omega
    have HSUM : Hid (∀ (X : World) (B gg cc : Nat), IRow X B (.slice (some ⟨gg, 0, none⟩) G cc) (fr (rsF G n d) G) → (I : Int) ≤ (cc : Int) ∧ (Calls Try.prog 27 #[.slice (some ⟨gg, 0, none⟩) I cc] X fun e w' => e = .returned (.int .i64 (rsS G n d I)) ∧ X = w') ∧ (Calls Try.prog 27 #[.slice (some ⟨gg, 0, none⟩) G cc] X fun e w' => e = .returned (.int .i64 (rsS G n d G)) ∧ X = w')) := Lib.hid fun X B gg cc hr =>
      ⟨by have := rowCap hr; omega, sumPre (by omega) (by omega) hsb hr, sumPre (by omega) (by omega) hsb hr⟩
    have b1 := rsS_bd (g := G) (n := n) (d := d) (m := I) (by omega) (by omega) (by omega) (by omega) (by omega)
    have b2 := rsS_bd (g := G) (n := n) (d := d) (m := G) (by omega) (by omega) (by omega) (by omega) (by omega)
    have HR : Hid (∀ w, Calls Try.prog 20 #[.int .i64 (rsS G n d I), .int .i64 (rsS G n d G)] w (Ret w (.agg #[.int .i64 (numZ (rsS G n d I) (rsS G n d G)), .int .i64 (denZ (rsS G n d I) (rsS G n d G))]))) := Lib.hid fun w => lowZ_any _ _ w (by omega) (by have := b2.2.2 (by omega); omega)
    generalize numZ (rsS G n d I) (rsS G n d G) = x at *
    generalize denZ (rsS G n d I) (rsS G n d G) = y at *
    generalize rsS G n d I = u1 at *
    generalize rsS G n d G = u2 at *
    clear hsb b1 b2
    go_enter Try.func8, Try.ntmps8
    go_wp2_with (first | (go_at_call 18; refine (HA.out _).mono ?_; rintro e wa ⟨rfl, hba⟩; have hx := HX.out.kept hba; have r0 := hx.r.1; have r1 := hx.r.2.1; have y0 := hx.z.c0; have y1 := hx.z.c1; have y2 := hx.z.f0; have y3 := hx.z.f1; have lt1 := hx.z.lt; have HX2 := Lib.hid hx; clear hx hba) | (go_at_call 26; refine (HRT.out _).mono ?_; rintro e w3 ⟨v3, rfl, hr3, hb3⟩; have hx := HX2.out.kept hb3; have q4 := hx.r.1; have q5 := hx.r.2.1; have q0 := hx.z.c0; have q1 := hx.z.c1; have q2 := hx.z.f0; have q3 := hx.z.f1; have lt2 := hx.z.lt; have HX3 := Lib.hid hx; obtain ⟨g3, c3, rfl, hg3, hl3⟩ := hr3.form' (fr_length _ _) (by omega); have hs := HSUM.out _ _ _ _ hr3; have cp := hs.1; have S1 := Lib.hid hs.2.1; have S2 := Lib.hid hs.2.2; clear hx hb3 hs hr3 hg3 hl3 r0 r1 y0 y1 y2 y3) | (go_at_call 27; first | (with_reducible refine S1.out.mono ?_; rintro e w' ⟨rfl, rfl⟩) | (with_reducible refine S2.out.mono ?_; rintro e w' ⟨rfl, rfl⟩)) | (go_at_call 20; refine (HR.out _).mono ?_; rintro e wz ⟨rfl, hbz⟩; have hx := HX3.out.kept hbz; have s0 := hx.z.c0; have s1 := hx.z.c1; have s2 := hx.z.f0; have s3 := hx.z.f1; have HX4 := Lib.hid hx; clear hx hbz q0 q1 q2 q3 q4 q5))
    obtain ⟨z0, z1, hzb⟩ := HX4.out.z.done x y
    refine bodyPost_ret (v := ratRet x y true) ?_ rfl ⟨rfl, hzb⟩
    clear hzb
    generalize (wz.setCell ⟨w.heap.size + 1, 0, none⟩ (.int .i64 x)).setCell ⟨w.heap.size + 1, 1, none⟩ (.int .i64 y) = WF at *
    simp [results, Try.f8, go_sem, z0, z1]
  · have e1 : waP i g n d = 0 := by unfold waP; rw [ha]; rfl
    have e2 : waQ i g n d = 0 := by unfold waQ; rw [ha]; rfl
    rw [e1, e2]
    rw [ha] at HA ⊢
    clear e1 e2 ha
    go_enter Try.func8, Try.ntmps8
    go_wp2_with (go_at_call 18; refine (HA.out _).mono ?_; rintro e wa ⟨rfl, hba⟩; have hx := HX.out.kept hba; have r0 := hx.r.1; have r1 := hx.r.2.1; have y0 := hx.z.c0; have y1 := hx.z.c1; have y2 := hx.z.f0; have y3 := hx.z.f1; have lt1 := hx.z.lt; have HX2 := Lib.hid hx; clear hx hba)
    obtain ⟨z0, z1, hzb⟩ := HX2.out.z.done 0 0
    refine bodyPost_ret (v := ratRet 0 0 false) ?_ rfl ⟨rfl, hzb⟩
    clear hzb
    generalize (wa.setCell ⟨w.heap.size + 1, 0, none⟩ (.int .i64 0)).setCell ⟨w.heap.size + 1, 1, none⟩ (.int .i64 0) = WF at *
    simp [results, Try.f8, go_sem, z0, z1]
end Go.Proofs.Ythgblfldncidnaa

/- The program's RuinChance, MeanHeld. -/
namespace Go.Proofs.Ythgblfldncidnaa
open Go.RowKit
set_option linter.unusedVariables false
/-- a chance, a result behind it, and a ratio in a box of its own -/
structure RW (w : World) (n d : Int) (b : Nat) (p q : Int) (X : World) : Prop where
  ra : RA w n d X
  qb : QB b p q X
  lo : w.heap.size + 1 < b
theorem RW.kept {w X X' : World} {n d p q : Int} {b : Nat} (h : RW w n d b p q X) (hb : Below X.heap.size X X') : RW w n d b p q X' := ⟨h.ra.kept hb, h.qb.below hb, h.lo⟩
theorem RW.done {w X : World} {n d p q : Int} {b : Nat} (h : RW w n d b p q X) (x y : Int) : RW w n d b p q ((X.setCell ⟨w.heap.size + 1, 0, none⟩ (.int .i64 x)).setCell ⟨w.heap.size + 1, 1, none⟩ (.int .i64 y)) := by
  have hl := h.lo
  refine ⟨(h.ra.done x y).2.2, ⟨?_, ?_, by simpa [World.setCell] using h.qb.lt⟩, h.lo⟩
  · rw [World.cell?_setCell_other _ _ _ _ (by intro e; injection e with e; omega), World.cell?_setCell_other _ _ _ _ (by intro e; injection e with e; omega)]
    exact h.qb.c0
  · rw [World.cell?_setCell_other _ _ _ _ (by intro e; injection e with e; omega), World.cell?_setCell_other _ _ _ _ (by intro e; injection e with e; omega)]
    exact h.qb.c1
theorem RW.start {w ww : World} {n d : Int} (h : RZ w n d ww) (p q : Int) : RW w n d ww.heap.size p q (ww.alloc (.cells #[.int .i64 p, .int .i64 q] 25)) :=
  ⟨(RA.of h).kept ((Below.refl _ _).alloc (Nat.le_refl _) _), QB.new ww p q _, h.z.lt⟩
def RWS (w : World) (n d : Int) (b : Nat) (p q : Int) (X : World) : Prop := X.cell? ⟨b, 0, none⟩ = some (.int .i64 p) ∧ X.cell? ⟨b, 1, none⟩ = some (.int .i64 q) ∧ RW w n d b p q X
theorem rwOf {w X : World} {n d p q : Int} {b : Nat} (h : X.cell? ⟨b, 0, none⟩ = some (.int .i64 p) ∧ X.cell? ⟨b, 1, none⟩ = some (.int .i64 q) ∧ RW w n d b p q X) : RW w n d b p q X := h.2.2
theorem rwMk {w X : World} {n d p q : Int} {b : Nat} (h : RW w n d b p q X) : X.cell? ⟨b, 0, none⟩ = some (.int .i64 p) ∧ X.cell? ⟨b, 1, none⟩ = some (.int .i64 q) ∧ RW w n d b p q X := ⟨h.qb.c0, h.qb.c1, h⟩
theorem rwKeep {w X X' : World} {n d p q : Int} {b : Nat} (h : X.cell? ⟨b, 0, none⟩ = some (.int .i64 p) ∧ X.cell? ⟨b, 1, none⟩ = some (.int .i64 q) ∧ RW w n d b p q X) (hb : Below X.heap.size X X') : X'.cell? ⟨b, 0, none⟩ = some (.int .i64 p) ∧ X'.cell? ⟨b, 1, none⟩ = some (.int .i64 q) ∧ RW w n d b p q X' := rwMk (h.2.2.kept hb)
theorem rwStore {w X : World} {n d p q : Int} {b : Nat} (x y : Int) (h : X.cell? ⟨b, 0, none⟩ = some (.int .i64 p) ∧ X.cell? ⟨b, 1, none⟩ = some (.int .i64 q) ∧ RW w n d b p q X) :
    ((X.setCell ⟨w.heap.size + 1, 0, none⟩ (.int .i64 x)).setCell ⟨w.heap.size + 1, 1, none⟩ (.int .i64 y)).cell? ⟨b, 0, none⟩ = some (.int .i64 p) ∧ ((X.setCell ⟨w.heap.size + 1, 0, none⟩ (.int .i64 x)).setCell ⟨w.heap.size + 1, 1, none⟩ (.int .i64 y)).cell? ⟨b, 1, none⟩ = some (.int .i64 q) ∧ RW w n d b p q ((X.setCell ⟨w.heap.size + 1, 0, none⟩ (.int .i64 x)).setCell ⟨w.heap.size + 1, 1, none⟩ (.int .i64 y)) := rwMk (h.2.2.done x y)
theorem ZBox.done2 {w W : World} {b : Nat} (h : ZBox w b W) (x y : Int) (o : Obj) :
    (((W.setCell ⟨b, 0, none⟩ (.int .i64 x)).setCell ⟨b, 1, none⟩ (.int .i64 y)).alloc o).cell? ⟨b, 0, none⟩ = some (.int .i64 x) ∧ (((W.setCell ⟨b, 0, none⟩ (.int .i64 x)).setCell ⟨b, 1, none⟩ (.int .i64 y)).alloc o).cell? ⟨b, 1, none⟩ = some (.int .i64 y) ∧
    Below w.heap.size w (((W.setCell ⟨b, 0, none⟩ (.int .i64 x)).setCell ⟨b, 1, none⟩ (.int .i64 y)).alloc o) := by
  obtain ⟨h1, h2, h3⟩ := h.done x y
  have hs : b < ((W.setCell ⟨b, 0, none⟩ (.int .i64 x)).setCell ⟨b, 1, none⟩ (.int .i64 y)).heap.size := by simpa [World.setCell] using h.lt
  generalize (W.setCell ⟨b, 0, none⟩ (.int .i64 x)).setCell ⟨b, 1, none⟩ (.int .i64 y) = X at *
  have hb : Below X.heap.size X (X.alloc o) := (Below.refl _ _).alloc (Nat.le_refl _) _
  exact ⟨(hb.cell (p := ⟨b, 0, none⟩) hs).trans h1, (hb.cell (p := ⟨b, 1, none⟩) hs).trans h2, h3.trans (hb.mono h3.size)⟩
set_option maxRecDepth 100000 in
set_option maxHeartbeats 1000000 in
theorem meanHeldI_ret (i g n d : Int) (w : World) : Calls Try.prog 32 #[.int .i64 i, .int .i64 g, .agg #[.int .i64 n, .int .i64 d]] w (Ret w (ratRet (mhP i g n d) (mhQ i g n d) (askB i g n d))) := by
  have HWN : Hid (∀ w, Calls Try.prog 8 #[.int .i64 i, .int .i64 g, .agg #[.int .i64 n, .int .i64 d]] w (Ret w (ratRet (waP i g n d) (waQ i g n d) (askB i g n d)))) := Lib.hid fun w => winI_ret i g n d w
  have HX := Lib.hid (RZ.start w n d)
  rcases Bool.eq_false_or_eq_true (askB i g n d) with ha | ha
  · obtain ⟨bp, bq, _⟩ := win_bd ha
    obtain ⟨bg, bi, bd, bn⟩ := askB_of ha
    have w1 : waP i g n d = winP i g n d := by unfold waP; rw [if_pos ha]
    have w2 : waQ i g n d = winQ i g n d := by unfold waQ; rw [if_pos ha]
    have e1 : mhP i g n d = numZ (g * winP i g n d) (winQ i g n d) := by unfold mhP; rw [if_pos ha]
    have e2 : mhQ i g n d = denZ (g * winP i g n d) (winQ i g n d) := by unfold mhQ; rw [if_pos ha]
    rw [e1, e2]
    rw [ha, w1, w2] at HWN
    rw [ha]
    clear e1 e2 ha w1 w2
    generalize winP i g n d = p at *
    generalize winQ i g n d = q at *
    have m1 := mul_le_of' (x := g) (y := p) (A := 12) (B := 244140625) (by omega) (by omega)
    have HR : Hid (∀ w, Calls Try.prog 20 #[.int .i64 (g * p), .int .i64 (q)] w (Ret w (.agg #[.int .i64 (numZ (g * p) q), .int .i64 (denZ (g * p) q)]))) := Lib.hid fun w => lowZ_any _ _ w (by omega) (by omega)
    generalize numZ (g * p) q = x at *
    generalize denZ (g * p) q = y at *
    go_enter Try.func32, Try.ntmps32
    go_wp2_with (first | (go_at_call 8; refine (HWN.out _).mono ?_; rintro e ww ⟨rfl, hbw⟩; have hx := HX.out.kept hbw; have HX2 := Lib.hid hx; have r0 := hx.r.1; have r1 := hx.r.2.1; have y0 := hx.z.c0; have y1 := hx.z.c1; have y2 := hx.z.f0; have y3 := hx.z.f1; have lt1 := hx.z.lt; have HRW := Lib.hid (RW.start hx p q); clear hx hbw) | (go_at_call 20; refine (HR.out _).mono ?_; rintro e wz ⟨rfl, hbz⟩; have hz := HRW.out.ra.kept hbz; obtain ⟨u0, s0⟩ := hz.c0; obtain ⟨u1, s1⟩ := hz.c1; have s2 := hz.f0; have s3 := hz.f1; have HZ := Lib.hid hz; clear hz))
    all_goals
      go_wp2_with fail
      obtain ⟨z0, z1, hzb⟩ := HZ.out.done x y
      refine bodyPost_ret (v := ratRet x y true) ?_ rfl ⟨rfl, hzb.r.2.2.2⟩
      clear hzb
      generalize (wz.setCell ⟨w.heap.size + 1, 0, none⟩ (.int .i64 x)).setCell ⟨w.heap.size + 1, 1, none⟩ (.int .i64 y) = WF at *
      simp [results, Try.f32, go_sem, z0, z1]
  · have e1 : mhP i g n d = 0 := by unfold mhP; rw [ha]; rfl
    have e2 : mhQ i g n d = 0 := by unfold mhQ; rw [ha]; rfl
    have w1 : waP i g n d = 0 := by unfold waP; rw [ha]; rfl
    have w2 : waQ i g n d = 0 := by unfold waQ; rw [ha]; rfl
    rw [e1, e2]
    rw [ha, w1, w2] at HWN
    rw [ha]
    clear e1 e2 ha w1 w2
    go_enter Try.func32, Try.ntmps32
    go_wp2_with (go_at_call 8; refine (HWN.out _).mono ?_; rintro e ww ⟨rfl, hbw⟩; have hx := HX.out.kept hbw; have r0 := hx.r.1; have r1 := hx.r.2.1; have y0 := hx.z.c0; have y1 := hx.z.c1; have y2 := hx.z.f0; have y3 := hx.z.f1; have lt1 := hx.z.lt; have HX2 := Lib.hid hx; clear hx hbw)
    obtain ⟨z0, z1, hzb⟩ := HX2.out.z.done2 0 0 (.cells #[.int .i64 0, .int .i64 0] 25)
    refine bodyPost_ret (v := ratRet 0 0 false) ?_ rfl ⟨rfl, hzb⟩
    clear hzb
    generalize ((ww.setCell ⟨w.heap.size + 1, 0, none⟩ (.int .i64 0)).setCell ⟨w.heap.size + 1, 1, none⟩ (.int .i64 0)).alloc (.cells #[.int .i64 0, .int .i64 0] 25) = WF at *
    simp [results, Try.f32, go_sem, z0, z1]
end Go.Proofs.Ythgblfldncidnaa
