/- The model's WinWithin, RuinWithin. -/
import Derived.Test.YtfimcadnlhohlaaHwS
namespace Go.Proofs.Ytfimcadnlhohlaa
open Go.RowKit
set_option linter.unusedVariables false
def timB (i g n d k : Int) : Bool := askB i g n d && inBd 0 18 k
theorem timB_of {i g n d k : Int} (h : timB i g n d k = true) : askB i g n d = true ∧ 0 ≤ k ∧ k ≤ 18 := by
  unfold timB inBd at h
  simp only [Bool.and_eq_true, decide_eq_true_eq] at h
  exact ⟨h.1, h.2.1, h.2.2⟩
set_option maxHeartbeats 1000000 in
theorem ruTimes_any (i g n d k : Int) (w : World) : Calls Try.prog 67 #[.int .i64 i, .int .i64 g, .agg #[.int .i64 n, .int .i64 d], .int .i64 k] w (Ret w (.bool (timB i g n d k))) := by
  have HA : Hid (∀ w, Calls Try.prog 56 #[.int .i64 i, .int .i64 g, .agg #[.int .i64 n, .int .i64 d]] w (Ret w (.bool (askB i g n d)))) := Lib.hid fun w => ruAsked_any i g n d w
  have HI : Hid (∀ w, Calls Try.prog 64 #[.int .i64 k, .int .i64 0, .int .i64 18] w fun e w' => e = .returned (.bool (inBd 0 18 k)) ∧ w = w') := Lib.hid fun w => in_any k 0 18 w
  have hb0 := (RBox.start w n d).2.2.2
  unfold timB
  generalize inBd 0 18 k = b at *
  rcases Bool.eq_false_or_eq_true (askB i g n d) with a1 | a1
  · rw [a1] at HA ⊢
    go_enter Try.func67, Try.ntmps67
    go_wp2_with (first | (go_at_call 56; refine (HA.out _).mono ?_; rintro e wa ⟨rfl, hba⟩) | (go_at_call 64; refine (HI.out _).mono ?_; rintro e w' ⟨rfl, rfl⟩))
    go_ret
    exact ⟨by simp, hb0.trans (hba.mono (by simp))⟩
  · rw [a1] at HA ⊢
    go_enter Try.func67, Try.ntmps67
    go_wp2_with (go_at_call 56; refine (HA.out _).mono ?_; rintro e wa ⟨rfl, hba⟩)
    go_ret
    exact ⟨by simp, hb0.trans (hba.mono (by simp))⟩
/-- a chance in its box, and a result behind it, whatever it holds -/
structure RA (w : World) (n d : Int) (W : World) : Prop where
  r : RBox w w.heap.size n d W
  c0 : ∃ u : Int, W.cell? ⟨w.heap.size + 1, 0, none⟩ = some (.int .i64 u)
  c1 : ∃ u : Int, W.cell? ⟨w.heap.size + 1, 1, none⟩ = some (.int .i64 u)
  f0 : W.frozen? ⟨w.heap.size + 1, 0, none⟩ = false
  f1 : W.frozen? ⟨w.heap.size + 1, 1, none⟩ = false
  lt : w.heap.size + 1 < W.heap.size
theorem RA.kept {w W W' : World} {n d : Int} (h : RA w n d W) (hb : Below W.heap.size W W') : RA w n d W' := by
  obtain ⟨u, hu⟩ := h.c0
  obtain ⟨v, hv⟩ := h.c1
  exact ⟨h.r.kept hb, ⟨u, (hb.cell (p := ⟨w.heap.size + 1, 0, none⟩) h.lt).trans hu⟩, ⟨v, (hb.cell (p := ⟨w.heap.size + 1, 1, none⟩) h.lt).trans hv⟩, (hb.frozen (p := ⟨w.heap.size + 1, 0, none⟩) h.lt).trans h.f0, (hb.frozen (p := ⟨w.heap.size + 1, 1, none⟩) h.lt).trans h.f1, Nat.lt_of_lt_of_le h.lt hb.size⟩
theorem RA.of {w W : World} {n d : Int} (h : RZ w n d W) : RA w n d W := ⟨h.r, ⟨0, h.z.c0⟩, ⟨0, h.z.c1⟩, h.z.f0, h.z.f1, h.z.lt⟩
theorem RA.done {w W : World} {n d : Int} (h : RA w n d W) (x y : Int) :
    ((W.setCell ⟨w.heap.size + 1, 0, none⟩ (.int .i64 x)).setCell ⟨w.heap.size + 1, 1, none⟩ (.int .i64 y)).cell? ⟨w.heap.size + 1, 0, none⟩ = some (.int .i64 x) ∧ ((W.setCell ⟨w.heap.size + 1, 0, none⟩ (.int .i64 x)).setCell ⟨w.heap.size + 1, 1, none⟩ (.int .i64 y)).cell? ⟨w.heap.size + 1, 1, none⟩ = some (.int .i64 y) ∧
    RA w n d ((W.setCell ⟨w.heap.size + 1, 0, none⟩ (.int .i64 x)).setCell ⟨w.heap.size + 1, 1, none⟩ (.int .i64 y)) := by
  obtain ⟨u, hu⟩ := h.c0
  obtain ⟨v, hv⟩ := h.c1
  have a0 : ((W.setCell ⟨w.heap.size + 1, 0, none⟩ (.int .i64 x)).setCell ⟨w.heap.size + 1, 1, none⟩ (.int .i64 y)).cell? ⟨w.heap.size + 1, 0, none⟩ = some (.int .i64 x) := (World.cell?_setCell_other _ _ _ _ (by simp)).trans (World.cell?_setCell_same' _ _ _ (by rw [hu]; rfl))
  have a1 : ((W.setCell ⟨w.heap.size + 1, 0, none⟩ (.int .i64 x)).setCell ⟨w.heap.size + 1, 1, none⟩ (.int .i64 y)).cell? ⟨w.heap.size + 1, 1, none⟩ = some (.int .i64 y) := World.cell?_setCell_same' _ _ _ (by rw [World.cell?_setCell_other _ _ _ _ (by simp), hv]; rfl)
  have hne : ∀ o o', (⟨w.heap.size + 1, o, none⟩ : Addr) ≠ ⟨w.heap.size, o', none⟩ := fun o o' e => by injection e with e; omega
  refine ⟨a0, a1, ⟨?_, ?_, ?_, ?_⟩, ⟨x, a0⟩, ⟨y, a1⟩, by rw [World.frozen?_setCell, World.frozen?_setCell]; exact h.f0, by rw [World.frozen?_setCell, World.frozen?_setCell]; exact h.f1, by simpa [World.setCell] using h.lt⟩
  · rw [World.cell?_setCell_other _ _ _ _ (by intro e; injection e with e; omega), World.cell?_setCell_other _ _ _ _ (by intro e; injection e with e; omega)]
    exact h.r.1
  · rw [World.cell?_setCell_other _ _ _ _ (by intro e; injection e with e; omega), World.cell?_setCell_other _ _ _ _ (by intro e; injection e with e; omega)]
    exact h.r.2.1
  · simpa [World.setCell] using h.r.2.2.1
  · exact (h.r.2.2.2.setCell (p := ⟨w.heap.size + 1, 0, none⟩) (by show w.heap.size ≤ w.heap.size + 1; omega) _).setCell (p := ⟨w.heap.size + 1, 1, none⟩) (by show w.heap.size ≤ w.heap.size + 1; omega) _
theorem raKeep {w W W' : World} {n d : Int} (h : W.cell? ⟨w.heap.size, 0, none⟩ = some (.int .i64 n) ∧ W.cell? ⟨w.heap.size, 1, none⟩ = some (.int .i64 d) ∧ RA w n d W) (hb : Below W.heap.size W W') : W'.cell? ⟨w.heap.size, 0, none⟩ = some (.int .i64 n) ∧ W'.cell? ⟨w.heap.size, 1, none⟩ = some (.int .i64 d) ∧ RA w n d W' :=
  ⟨(h.2.2.kept hb).r.1, (h.2.2.kept hb).r.2.1, h.2.2.kept hb⟩
theorem raStore {w W : World} {n d : Int} (x y : Int) (h : W.cell? ⟨w.heap.size, 0, none⟩ = some (.int .i64 n) ∧ W.cell? ⟨w.heap.size, 1, none⟩ = some (.int .i64 d) ∧ RA w n d W) :
    ((W.setCell ⟨w.heap.size + 1, 0, none⟩ (.int .i64 x)).setCell ⟨w.heap.size + 1, 1, none⟩ (.int .i64 y)).cell? ⟨w.heap.size, 0, none⟩ = some (.int .i64 n) ∧ ((W.setCell ⟨w.heap.size + 1, 0, none⟩ (.int .i64 x)).setCell ⟨w.heap.size + 1, 1, none⟩ (.int .i64 y)).cell? ⟨w.heap.size, 1, none⟩ = some (.int .i64 d) ∧
    RA w n d ((W.setCell ⟨w.heap.size + 1, 0, none⟩ (.int .i64 x)).setCell ⟨w.heap.size + 1, 1, none⟩ (.int .i64 y)) :=
  ⟨(h.2.2.done x y).2.2.r.1, (h.2.2.done x y).2.2.r.2.1, (h.2.2.done x y).2.2⟩
theorem raOf {w W : World} {n d : Int} (h : W.cell? ⟨w.heap.size, 0, none⟩ = some (.int .i64 n) ∧ W.cell? ⟨w.heap.size, 1, none⟩ = some (.int .i64 d) ∧ RA w n d W) : RA w n d W := h.2.2
def wwP (i g n d k : Int) : Int := if timB i g n d k = true then numZ (hw i.toNat g.toNat n d k.toNat g.toNat) (d ^ k.toNat) else 0
def wwQ (i g n d k : Int) : Int := if timB i g n d k = true then denZ (hw i.toNat g.toNat n d k.toNat g.toNat) (d ^ k.toNat) else 0
set_option maxRecDepth 100000 in
set_option maxHeartbeats 2000000 in
theorem specWinWithin_ret (i g n d k : Int) (w : World) : Calls Try.prog 32 #[.int .i64 i, .int .i64 g, .agg #[.int .i64 n, .int .i64 d], .int .i64 k] w (Ret w (ratRet (wwP i g n d k) (wwQ i g n d k) (timB i g n d k))) := by
  have HA : Hid (∀ w, Calls Try.prog 67 #[.int .i64 i, .int .i64 g, .agg #[.int .i64 n, .int .i64 d], .int .i64 k] w (Ret w (.bool (timB i g n d k)))) := Lib.hid fun w => ruTimes_any i g n d k w
  have HX := Lib.hid (RZ.start w n d)
  rcases Bool.eq_false_or_eq_true (timB i g n d k) with ha | ha
  · obtain ⟨h1, h2, h3⟩ := timB_of ha
    obtain ⟨bg, bi, bd, bn⟩ := askB_of h1
    unfold wwP wwQ
    simp only [if_pos ha]
    rw [ha] at HA ⊢
    clear ha h1
    obtain ⟨I, rfl⟩ := Int.eq_ofNat_of_zero_le bi.1
    obtain ⟨G, rfl⟩ := Int.eq_ofNat_of_zero_le (show 0 ≤ g by omega)
    obtain ⟨K, rfl⟩ := Int.eq_ofNat_of_zero_le h2
    simp only [Int.toNat_natCast]
    have HH : Hid (∀ w, Calls Try.prog 68 #[.int .i64 (I : Int), .int .i64 (G : Int), .agg #[.int .i64 n, .int .i64 d], .int .i64 (K : Int)] w (IntsNew w (fr (hw I G n d K) (G + 1)))) := Lib.hid fun w => ruHeld_any I G K n d w (by omega) (by omega) (by omega) (by omega) (by omega) (by omega)
    have HP : Hid (∀ w, Calls Try.prog 65 #[.int .i64 d, .int .i64 (K : Int)] w fun e w' => e = .returned (.int .i64 (d ^ K)) ∧ w = w') := Lib.hid fun w => ruPower_any d K w (by omega) (by omega)
    have p1 := hw_bd (i := I) (g := G) (n := n) (d := d) (k := K) (j := G) (by omega) (by omega) (by omega) (by omega) (by omega) (Nat.le_refl _)
    have p2 := pow6' (x := d) (k := K) (by omega) (by omega)
    have p3 := pow_pos1 (x := d) (by omega) K
    have HCL : Hid (∀ (W : World) (B gg cc : Nat), IRow W B (.slice (some ⟨gg, 0, none⟩) (G + 1) cc) (fr (hw I G n d K) (G + 1)) → W.cell? ⟨gg, G, none⟩ = some (.int .i64 (hw I G n d K G))) := Lib.hid fun W B gg cc hr => by
      have := hr.cell (j := G) (by rw [fr_length]; omega)
      rwa [fr_get _ _ _ (by omega)] at this
    generalize hw I G n d K G = a at *
    generalize d ^ K = b at *
    have HR : Hid (∀ w, Calls Try.prog 62 #[.int .i64 a, .int .i64 b] w (Ret w (.agg #[.int .i64 (numZ a b), .int .i64 (denZ a b)]))) := Lib.hid fun w => ruRatioZ_any a b w (by omega) (by omega)
    generalize numZ a b = x at *
    generalize denZ a b = y at *
    have i1 : (G : Int) < (G : Int) + 1 := by omega
    go_enter Try.func32, Try.ntmps32
    go_wp2_with (go_at_call 67; refine (HA.out _).mono ?_; rintro e wa ⟨rfl, hba⟩; have hx := HX.out.kept hba; have r0 := hx.r.1; have r1 := hx.r.2.1; have y0 := hx.z.c0; have y1 := hx.z.c1; have y2 := hx.z.f0; have y3 := hx.z.f1; have lt1 := hx.z.lt; have HX2 := Lib.hid hx; clear hx hba)
    have hra := (RA.of HX2.out).kept (Below.refl _ _).drew
    have HRA := Lib.hid hra
    clear hra
    go_region_held3 (fun W => W.cell? ⟨w.heap.size, 0, none⟩ = some (.int .i64 n) ∧ W.cell? ⟨w.heap.size, 1, none⟩ = some (.int .i64 d) ∧ RA w n d W) (first | exact ⟨HRA.out.r.1, HRA.out.r.2.1, HRA.out⟩ | assumption | exact raKeep (by assumption) (by assumption) | exact raStore _ _ (by assumption)) (first | (go_at_call 68; refine (HH.out _).mono ?_; rintro e w3 ⟨v3, rfl, hr3, hb'⟩; obtain ⟨g3, c3, rfl, hg3⟩ := hr3.form' (fr_length _ _) (by omega); have e5 := HCL.out _ _ _ _ hr3) | (go_at_call 65; refine (HP.out _).mono ?_; rintro e w' ⟨rfl, rfl⟩) | (go_at_call 62; refine (HR.out _).mono ?_; rintro e wz ⟨rfl, hbz⟩; have hz := (RA.kept (raOf (by assumption)) hbz); obtain ⟨u0, s0⟩ := hz.c0; obtain ⟨u1, s1⟩ := hz.c1; have s2 := hz.f0; have s3 := hz.f1; have HZ := Lib.hid hz; clear hz))
    all_goals
      go_wp2_with fail
      obtain ⟨z0, z1, hzb⟩ := HZ.out.done x y
      refine bodyPost_ret (v := ratRet x y true) ?_ rfl ⟨rfl, hzb.r.2.2.2⟩
      clear hzb
      generalize (wz.setCell ⟨w.heap.size + 1, 0, none⟩ (.int .i64 x)).setCell ⟨w.heap.size + 1, 1, none⟩ (.int .i64 y) = WF at *
      simp [results, Try.f32, go_sem, z0, z1]
  · have e1 : wwP i g n d k = 0 := by unfold wwP; rw [ha]; rfl
    have e2 : wwQ i g n d k = 0 := by unfold wwQ; rw [ha]; rfl
    rw [e1, e2]
    rw [ha] at HA ⊢
    clear e1 e2 ha
    go_enter Try.func32, Try.ntmps32
    go_wp2_with (go_at_call 67; refine (HA.out _).mono ?_; rintro e wa ⟨rfl, hba⟩; have hx := HX.out.kept hba; have r0 := hx.r.1; have r1 := hx.r.2.1; have y0 := hx.z.c0; have y1 := hx.z.c1; have y2 := hx.z.f0; have y3 := hx.z.f1; have lt1 := hx.z.lt; have HX2 := Lib.hid hx; clear hx hba)
    obtain ⟨z0, z1, hzb⟩ := HX2.out.z.done 0 0
    refine bodyPost_ret (v := ratRet 0 0 false) ?_ rfl ⟨rfl, hzb⟩
    clear hzb
    generalize (wa.setCell ⟨w.heap.size + 1, 0, none⟩ (.int .i64 0)).setCell ⟨w.heap.size + 1, 1, none⟩ (.int .i64 0) = WF at *
    simp [results, Try.f32, go_sem, z0, z1]
def rwP (i g n d k : Int) : Int := if timB i g n d k = true then numZ (hw i.toNat g.toNat n d k.toNat 0) (d ^ k.toNat) else 0
def rwQ (i g n d k : Int) : Int := if timB i g n d k = true then denZ (hw i.toNat g.toNat n d k.toNat 0) (d ^ k.toNat) else 0
set_option maxRecDepth 100000 in
set_option maxHeartbeats 2000000 in
theorem specRuinWithin_ret (i g n d k : Int) (w : World) : Calls Try.prog 34 #[.int .i64 i, .int .i64 g, .agg #[.int .i64 n, .int .i64 d], .int .i64 k] w (Ret w (ratRet (rwP i g n d k) (rwQ i g n d k) (timB i g n d k))) := by
  have HA : Hid (∀ w, Calls Try.prog 67 #[.int .i64 i, .int .i64 g, .agg #[.int .i64 n, .int .i64 d], .int .i64 k] w (Ret w (.bool (timB i g n d k)))) := Lib.hid fun w => ruTimes_any i g n d k w
  have HX := Lib.hid (RZ.start w n d)
  rcases Bool.eq_false_or_eq_true (timB i g n d k) with ha | ha
  · obtain ⟨h1, h2, h3⟩ := timB_of ha
    obtain ⟨bg, bi, bd, bn⟩ := askB_of h1
    unfold rwP rwQ
    simp only [if_pos ha]
    rw [ha] at HA ⊢
    clear ha h1
    obtain ⟨I, rfl⟩ := Int.eq_ofNat_of_zero_le bi.1
    obtain ⟨G, rfl⟩ := Int.eq_ofNat_of_zero_le (show 0 ≤ g by omega)
    obtain ⟨K, rfl⟩ := Int.eq_ofNat_of_zero_le h2
    simp only [Int.toNat_natCast]
    have HH : Hid (∀ w, Calls Try.prog 68 #[.int .i64 (I : Int), .int .i64 (G : Int), .agg #[.int .i64 n, .int .i64 d], .int .i64 (K : Int)] w (IntsNew w (fr (hw I G n d K) (G + 1)))) := Lib.hid fun w => ruHeld_any I G K n d w (by omega) (by omega) (by omega) (by omega) (by omega) (by omega)
    have HP : Hid (∀ w, Calls Try.prog 65 #[.int .i64 d, .int .i64 (K : Int)] w fun e w' => e = .returned (.int .i64 (d ^ K)) ∧ w = w') := Lib.hid fun w => ruPower_any d K w (by omega) (by omega)
    have p1 := hw_bd (i := I) (g := G) (n := n) (d := d) (k := K) (j := 0) (by omega) (by omega) (by omega) (by omega) (by omega) (Nat.zero_le _)
    have p2 := pow6' (x := d) (k := K) (by omega) (by omega)
    have p3 := pow_pos1 (x := d) (by omega) K
    have HCL : Hid (∀ (W : World) (B gg cc : Nat), IRow W B (.slice (some ⟨gg, 0, none⟩) (G + 1) cc) (fr (hw I G n d K) (G + 1)) → W.cell? ⟨gg, 0, none⟩ = some (.int .i64 (hw I G n d K 0))) := Lib.hid fun W B gg cc hr => by
      have := hr.cell (j := 0) (by rw [fr_length]; omega)
      rwa [fr_get _ _ _ (by omega)] at this
    generalize hw I G n d K 0 = a at *
    generalize d ^ K = b at *
    have HR : Hid (∀ w, Calls Try.prog 62 #[.int .i64 a, .int .i64 b] w (Ret w (.agg #[.int .i64 (numZ a b), .int .i64 (denZ a b)]))) := Lib.hid fun w => ruRatioZ_any a b w (by omega) (by omega)
    generalize numZ a b = x at *
    generalize denZ a b = y at *
    have i1 : (0 : Int) < (G : Int) + 1 := by omega
    go_enter Try.func34, Try.ntmps34
    go_wp2_with (go_at_call 67; refine (HA.out _).mono ?_; rintro e wa ⟨rfl, hba⟩; have hx := HX.out.kept hba; have r0 := hx.r.1; have r1 := hx.r.2.1; have y0 := hx.z.c0; have y1 := hx.z.c1; have y2 := hx.z.f0; have y3 := hx.z.f1; have lt1 := hx.z.lt; have HX2 := Lib.hid hx; clear hx hba)
    have hra := (RA.of HX2.out).kept (Below.refl _ _).drew
    have HRA := Lib.hid hra
    clear hra
    go_region_held3 (fun W => W.cell? ⟨w.heap.size, 0, none⟩ = some (.int .i64 n) ∧ W.cell? ⟨w.heap.size, 1, none⟩ = some (.int .i64 d) ∧ RA w n d W) (first | exact ⟨HRA.out.r.1, HRA.out.r.2.1, HRA.out⟩ | assumption | exact raKeep (by assumption) (by assumption) | exact raStore _ _ (by assumption)) (first | (go_at_call 68; refine (HH.out _).mono ?_; rintro e w3 ⟨v3, rfl, hr3, hb'⟩; obtain ⟨g3, c3, rfl, hg3⟩ := hr3.form' (fr_length _ _) (by omega); have e5 := HCL.out _ _ _ _ hr3) | (go_at_call 65; refine (HP.out _).mono ?_; rintro e w' ⟨rfl, rfl⟩) | (go_at_call 62; refine (HR.out _).mono ?_; rintro e wz ⟨rfl, hbz⟩; have hz := (RA.kept (raOf (by assumption)) hbz); obtain ⟨u0, s0⟩ := hz.c0; obtain ⟨u1, s1⟩ := hz.c1; have s2 := hz.f0; have s3 := hz.f1; have HZ := Lib.hid hz; clear hz))
    all_goals
      go_wp2_with fail
      obtain ⟨z0, z1, hzb⟩ := HZ.out.done x y
      refine bodyPost_ret (v := ratRet x y true) ?_ rfl ⟨rfl, hzb.r.2.2.2⟩
      clear hzb
      generalize (wz.setCell ⟨w.heap.size + 1, 0, none⟩ (.int .i64 x)).setCell ⟨w.heap.size + 1, 1, none⟩ (.int .i64 y) = WF at *
      simp [results, Try.f34, go_sem, z0, z1]
  · have e1 : rwP i g n d k = 0 := by unfold rwP; rw [ha]; rfl
    have e2 : rwQ i g n d k = 0 := by unfold rwQ; rw [ha]; rfl
    rw [e1, e2]
    rw [ha] at HA ⊢
    clear e1 e2 ha
    go_enter Try.func34, Try.ntmps34
    go_wp2_with (go_at_call 67; refine (HA.out _).mono ?_; rintro e wa ⟨rfl, hba⟩; have hx := HX.out.kept hba; have r0 := hx.r.1; have r1 := hx.r.2.1; have y0 := hx.z.c0; have y1 := hx.z.c1; have y2 := hx.z.f0; have y3 := hx.z.f1; have lt1 := hx.z.lt; have HX2 := Lib.hid hx; clear hx hba)
    obtain ⟨z0, z1, hzb⟩ := HX2.out.z.done 0 0
    refine bodyPost_ret (v := ratRet 0 0 false) ?_ rfl ⟨rfl, hzb⟩
    clear hzb
    generalize (wa.setCell ⟨w.heap.size + 1, 0, none⟩ (.int .i64 0)).setCell ⟨w.heap.size + 1, 1, none⟩ (.int .i64 0) = WF at *
    simp [results, Try.f34, go_sem, z0, z1]
end Go.Proofs.Ytfimcadnlhohlaa
