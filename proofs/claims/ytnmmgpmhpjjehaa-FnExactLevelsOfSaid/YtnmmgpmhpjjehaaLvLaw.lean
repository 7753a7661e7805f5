/- The laws' own words on levels: copies, sizes, comparisons. -/
import Derived.Test.YtnmmgpmhpjjehaaInList
import Derived.Test.YtnmmgpmhpjjehaaLists
import Derived.Handy
namespace Go.Proofs.Ytnmmgpmhpjjehaa
open Go.RowKit
set_option linter.unusedVariables false
theorem setCell_grown (W : World) (p : Addr) (v : Value) (hs : p.spot = none) : W.grownBy (W.setCell p v) (some p.block) := by
  have hsz : (W.setCell p v).heap.size = W.heap.size := by simp [World.setCell]
  refine ⟨rfl, rfl, rfl, by rw [hsz]; omega, fun i hi hne => ?_⟩
  unfold World.setCell
  simp only [Array.getElem?_modify]
  rw [if_neg (fun e => hne (by rw [e]))]
theorem IRow.low {w : World} {B : Nat} {v : Value} {xs : List Int} (h : IRow w B v xs) (p : Addr) (hs : p.spot = none) (hp : p.block < B) (x : Value) : IRow (w.setCell p x) B v xs :=
  World.ownsRow.kept h (setCell_grown w p x hs) (by
    cases e : v.ownBlock with
    | none => exact .inl rfl
    | some k =>
      right
      intro e2
      have := (h.blk k e).1
      injection e2 with e3
      omega)
theorem szInts_any (v : Value) (xs : List Int) (left : Int) (w : World) (h : RInts w v xs) (hl : xs.length ≤ 9223372036854775807) (h0 : 0 ≤ left ∧ left ≤ 1048576) :
    Calls Try.prog 85 #[v, .int .i64 left] w fun e w' => e = .returned (.int .i64 (if left - xs.length < 0 then -1 else left - xs.length)) ∧ w = w' := by
  obtain ⟨A, c, rfl⟩ := h.shape
  clear h
  by_cases hq : left - (xs.length : Int) < 0
  · rw [if_pos hq]
    go_enter Try.func85, Try.ntmps85
    go_wp2
    go_ret
    exact ⟨rfl, rfl⟩
  · rw [if_neg hq]
    go_enter Try.func85, Try.ntmps85
    go_wp2
    go_ret
    exact ⟨rfl, rfl⟩
def szLv (left : Int) (n m : Nat) : Int := if left - n < 0 then -1 else if left - n - m < 0 then -1 else left - n - m
set_option maxHeartbeats 800000 in
theorem szLevels_any (v u : Value) (fs ds : List Int) (left : Int) (w : World) (hF : RInts w v fs) (hD : RInts w u ds) (h1 : fs.length ≤ 9223372036854775807) (h2 : ds.length ≤ 9223372036854775807) (h0 : 0 ≤ left ∧ left ≤ 1048576) :
    Calls Try.prog 40 #[.agg #[v, u], .int .i64 left] w (Ret w (.int .i64 (szLv left fs.length ds.length))) := by
  have hb : Below w.heap.size w (w.alloc (.cells #[v, u] 42)) := (Below.refl _ _).alloc (Nat.le_refl _) _
  have HA := Lib.hid (szInts_any v fs left _ (hF.below hb) h1 h0)
  have HB : Hid (¬ left - (fs.length : Int) < 0 → Calls Try.prog 85 #[u, .int .i64 (left - fs.length)] (w.alloc (.cells #[v, u] 42)) fun e w' => e = .returned (.int .i64 (if left - fs.length - ds.length < 0 then -1 else left - fs.length - ds.length)) ∧ (w.alloc (.cells #[v, u] 42)) = w') := Lib.hid fun hq => szInts_any u ds (left - fs.length) _ (hD.below hb) h2 (by omega)
  obtain ⟨A, c, rfl⟩ := hF.shape
  obtain ⟨A2, c2, rfl⟩ := hD.shape
  clear hF hD
  unfold szLv
  by_cases hq : left - (fs.length : Int) < 0
  · rw [if_pos hq]
    rw [if_pos hq] at HA
    go_enter Try.func40, Try.ntmps40
    go_wp2_with (go_at_call 85; refine HA.out.mono ?_; rintro e w' ⟨rfl, rfl⟩)
    go_ret
    exact ⟨rfl, hb⟩
  · have HB2 := Lib.hid (HB.out hq)
    rw [if_neg hq]
    rw [if_neg hq] at HA
    clear HB
    generalize left - (fs.length : Int) = k at *
    have tok1 : True := trivial
    by_cases hq2 : k - (ds.length : Int) < 0
    · rw [if_pos hq2]
      rw [if_pos hq2] at HB2
      go_enter Try.func40, Try.ntmps40
      go_wp2_with (first | (have _t := tok1; go_at_call 85; clear _t tok1; refine HA.out.mono ?_; rintro e w' ⟨rfl, rfl⟩) | (go_at_call 85; refine HB2.out.mono ?_; rintro e w' ⟨rfl, rfl⟩))
      go_ret
      exact ⟨rfl, hb⟩
    · rw [if_neg hq2]
      rw [if_neg hq2] at HB2
      generalize k - (ds.length : Int) = m at *
      go_enter Try.func40, Try.ntmps40
      go_wp2_with (first | (have _t := tok1; go_at_call 85; clear _t tok1; refine HA.out.mono ?_; rintro e w' ⟨rfl, rfl⟩) | (go_at_call 85; refine HB2.out.mono ?_; rintro e w' ⟨rfl, rfl⟩))
      go_ret
      exact ⟨rfl, hb⟩
/-- a copy of levels: two rows of the call's own -/
def LevNew (w : World) (fs ds : List Int) (e : Ending) (w' : World) : Prop :=
  ∃ v u, e = .returned (.agg #[v, u]) ∧ IRow w' w.heap.size v fs ∧ IRow w' w.heap.size u ds ∧ (∀ q, v.ownBlock = some q → u.ownBlock ≠ some q) ∧ Below w.heap.size w w'
set_option maxRecDepth 100000 in
set_option maxHeartbeats 1600000 in
theorem toLevels_any (v u : Value) (fs ds : List Int) (w : World) (hF : RInts w v fs) (hD : RInts w u ds) (h1 : fs.length ≤ 1048576) (h2 : ds.length ≤ 1048576) :
    Calls Try.prog 42 #[.agg #[v, u]] w (LevNew w fs ds) := by
  obtain ⟨W3, hW3⟩ : ∃ W, W = ((w.alloc (.cells #[v, u] 42)).alloc (.cells #[.slice none 0 0, .slice none 0 0] 45)).alloc (.cells #[.slice none 0 0, .slice none 0 0] 45) := ⟨_, rfl⟩
  have hb : Below w.heap.size w W3 := by rw [hW3]; exact (((Below.refl _ _).alloc (Nat.le_refl _) _).alloc (by simp) _).alloc (by simp; omega) _
  have hz3 : W3.heap.size = w.heap.size + 3 := by rw [hW3]; simp
  have b0 : W3.cell? ⟨w.heap.size, 0, none⟩ = some v := by rw [hW3]; simp [go_sem]
  have b1 : W3.cell? ⟨w.heap.size, 1, none⟩ = some u := by rw [hW3]; simp [go_sem]
  have o0 : W3.cell? ⟨w.heap.size + 1 + 1, 0, none⟩ = some (.slice none 0 0) := by rw [hW3]; simp [go_sem]
  have o1 : W3.cell? ⟨w.heap.size + 1 + 1, 1, none⟩ = some (.slice none 0 0) := by rw [hW3]; simp [go_sem]
  have p0 : W3.cell? ⟨w.heap.size + 1, 0, none⟩ = some (.slice none 0 0) := by rw [hW3]; simp [go_sem]
  have p1 : W3.cell? ⟨w.heap.size + 1, 1, none⟩ = some (.slice none 0 0) := by rw [hW3]; simp [go_sem]
  have q0 : W3.frozen? ⟨w.heap.size + 1 + 1, 0, none⟩ = false := by rw [hW3]; simp [go_sem]
  have q1 : W3.frozen? ⟨w.heap.size + 1 + 1, 1, none⟩ = false := by rw [hW3]; simp [go_sem]
  have q2 : W3.frozen? ⟨w.heap.size + 1, 0, none⟩ = false := by rw [hW3]; simp [go_sem]
  have q3 : W3.frozen? ⟨w.heap.size + 1, 1, none⟩ = false := by rw [hW3]; simp [go_sem]
  have HA := Lib.hid (toIntS_any v fs W3 (hF.below hb) h1)
  obtain ⟨A, c, rfl⟩ := hF.shape
  obtain ⟨A2, c2, rfl⟩ := hD.shape
  have HD := Lib.hid hD
  clear hF hD
  have HW3 := Lib.hid hW3
  clear hW3
  go_enter Try.func42, Try.ntmps42
  go_wp2_with fail
  rw [← HW3.out]
  refine HA.out.mono ?_
  rintro e w1 ⟨v1, rfl, hr1, hb1⟩
  have z1 := hb1.size
  have a1 := (hb1.cell (p := ⟨w.heap.size, 1, none⟩) (show w.heap.size < W3.heap.size by omega)).trans b1
  have a2 := (hb1.cell (p := ⟨w.heap.size + 1 + 1, 0, none⟩) (show w.heap.size + 1 + 1 < W3.heap.size by omega)).trans o0
  have a3 := (hb1.cell (p := ⟨w.heap.size + 1 + 1, 1, none⟩) (show w.heap.size + 1 + 1 < W3.heap.size by omega)).trans o1
  have a4 := (hb1.cell (p := ⟨w.heap.size + 1, 0, none⟩) (show w.heap.size + 1 < W3.heap.size by omega)).trans p0
  have a5 := (hb1.cell (p := ⟨w.heap.size + 1, 1, none⟩) (show w.heap.size + 1 < W3.heap.size by omega)).trans p1
  have g0 := (hb1.frozen (p := ⟨w.heap.size + 1 + 1, 0, none⟩) (show w.heap.size + 1 + 1 < W3.heap.size by omega)).trans q0
  have g1 := (hb1.frozen (p := ⟨w.heap.size + 1 + 1, 1, none⟩) (show w.heap.size + 1 + 1 < W3.heap.size by omega)).trans q1
  have g2 := (hb1.frozen (p := ⟨w.heap.size + 1, 0, none⟩) (show w.heap.size + 1 < W3.heap.size by omega)).trans q2
  have g3 := (hb1.frozen (p := ⟨w.heap.size + 1, 1, none⟩) (show w.heap.size + 1 < W3.heap.size by omega)).trans q3
  have hw1 : Below w.heap.size w w1 := hb.trans (hb1.mono (by omega))
  clear b0 b1 o0 o1 p0 p1 q0 q1 q2 q3
  obtain ⟨A3, c3, rfl⟩ := hr1.shape
  obtain ⟨w2, hw2⟩ : ∃ w2, w2 = w1.setCell ⟨w.heap.size + 1 + 1, 0, none⟩ (.slice A3 fs.length c3) := ⟨_, rfl⟩
  have m1 : w2.cell? ⟨w.heap.size, 1, none⟩ = some (.slice A2 ds.length c2) := by rw [hw2]; exact (World.cell?_setCell_other _ _ _ _ (by simp)).trans a1
  have m2 : w2.cell? ⟨w.heap.size + 1 + 1, 0, none⟩ = some (.slice A3 fs.length c3) := by rw [hw2]; exact World.cell?_setCell_same' _ _ _ (by rw [a2]; rfl)
  have m3 : w2.cell? ⟨w.heap.size + 1 + 1, 1, none⟩ = some (.slice none 0 0) := by rw [hw2]; exact (World.cell?_setCell_other _ _ _ _ (by simp)).trans a3
  have m4 : w2.cell? ⟨w.heap.size + 1, 0, none⟩ = some (.slice none 0 0) := by rw [hw2]; exact (World.cell?_setCell_other _ _ _ _ (by simp)).trans a4
  have m5 : w2.cell? ⟨w.heap.size + 1, 1, none⟩ = some (.slice none 0 0) := by rw [hw2]; exact (World.cell?_setCell_other _ _ _ _ (by simp)).trans a5
  have f1 : w2.frozen? ⟨w.heap.size + 1 + 1, 1, none⟩ = false := by rw [hw2, World.frozen?_setCell]; exact g1
  have f2 : w2.frozen? ⟨w.heap.size + 1, 0, none⟩ = false := by rw [hw2, World.frozen?_setCell]; exact g2
  have f3 : w2.frozen? ⟨w.heap.size + 1, 1, none⟩ = false := by rw [hw2, World.frozen?_setCell]; exact g3
  have hr2 : IRow w2 W3.heap.size (.slice A3 fs.length c3) fs := by rw [hw2]; exact hr1.low _ rfl (show w.heap.size + 1 + 1 < W3.heap.size by omega) _
  have hB2 : Below w.heap.size w w2 := by rw [hw2]; exact hw1.setCell (p := ⟨w.heap.size + 1 + 1, 0, none⟩) (show w.heap.size ≤ w.heap.size + 1 + 1 by omega) _
  have z2 : w2.heap.size = w1.heap.size := by rw [hw2]; simp [World.setCell]
  have HB := Lib.hid (toIntS_any _ ds w2 (HD.out.below hB2) h2)
  have HW2 := Lib.hid hw2
  have HR2 := Lib.hid hr2
  clear hw2 hr1 hb1 hr2
  go_wp2_with fail
  rw [← HW2.out]
  refine HB.out.mono ?_
  rintro e w3 ⟨v3, rfl, hr3, hb3⟩
  have z3 := hb3.size
  have n2 := (hb3.cell (p := ⟨w.heap.size + 1 + 1, 0, none⟩) (show w.heap.size + 1 + 1 < w2.heap.size by omega)).trans m2
  have n3 := (hb3.cell (p := ⟨w.heap.size + 1 + 1, 1, none⟩) (show w.heap.size + 1 + 1 < w2.heap.size by omega)).trans m3
  have n4 := (hb3.cell (p := ⟨w.heap.size + 1, 0, none⟩) (show w.heap.size + 1 < w2.heap.size by omega)).trans m4
  have n5 := (hb3.cell (p := ⟨w.heap.size + 1, 1, none⟩) (show w.heap.size + 1 < w2.heap.size by omega)).trans m5
  have r1 := (hb3.frozen (p := ⟨w.heap.size + 1 + 1, 1, none⟩) (show w.heap.size + 1 + 1 < w2.heap.size by omega)).trans f1
  have r2 := (hb3.frozen (p := ⟨w.heap.size + 1, 0, none⟩) (show w.heap.size + 1 < w2.heap.size by omega)).trans f2
  have r3 := (hb3.frozen (p := ⟨w.heap.size + 1, 1, none⟩) (show w.heap.size + 1 < w2.heap.size by omega)).trans f3
  have hB3 : Below w.heap.size w w3 := hB2.trans (hb3.mono (by omega))
  have hr23 := HR2.out.below hb3
  have hne : ∀ q, (Value.slice A3 fs.length c3).ownBlock = some q → v3.ownBlock ≠ some q := fun q hq e => by
    have h1 := (HR2.out.blk q hq).2
    have h2 := (hr3.blk q e).1
    omega
  obtain ⟨A4, c4, rfl⟩ := hr3.shape
  clear m1 m2 m3 m4 m5 f1 f2 f3 a1 a2 a3 a4 a5 g0 g1 g2 g3
  have e0 : (((w3.setCell ⟨w.heap.size + 1 + 1, 1, none⟩ (.slice A4 ds.length c4)).setCell ⟨w.heap.size + 1, 0, none⟩ (.slice A3 fs.length c3)).setCell ⟨w.heap.size + 1, 1, none⟩ (.slice A4 ds.length c4)).cell? ⟨w.heap.size + 1, 0, none⟩ = some (.slice A3 fs.length c3) :=
    (World.cell?_setCell_other _ _ _ _ (by simp)).trans (World.cell?_setCell_same' _ _ _ (by rw [World.cell?_setCell_other _ _ _ _ (by simp), n4]; rfl))
  have e1 : (((w3.setCell ⟨w.heap.size + 1 + 1, 1, none⟩ (.slice A4 ds.length c4)).setCell ⟨w.heap.size + 1, 0, none⟩ (.slice A3 fs.length c3)).setCell ⟨w.heap.size + 1, 1, none⟩ (.slice A4 ds.length c4)).cell? ⟨w.heap.size + 1, 1, none⟩ = some (.slice A4 ds.length c4) :=
    World.cell?_setCell_same' _ _ _ (by rw [World.cell?_setCell_other _ _ _ _ (by simp), World.cell?_setCell_other _ _ _ _ (by simp), n5]; rfl)
  have L1 := ((hr23.low ⟨w.heap.size + 1 + 1, 1, none⟩ rfl (show w.heap.size + 1 + 1 < W3.heap.size by omega) (.slice A4 ds.length c4)).low ⟨w.heap.size + 1, 0, none⟩ rfl (show w.heap.size + 1 < W3.heap.size by omega) (.slice A3 fs.length c3)).low ⟨w.heap.size + 1, 1, none⟩ rfl (show w.heap.size + 1 < W3.heap.size by omega) (.slice A4 ds.length c4)
  have L2 := ((hr3.low ⟨w.heap.size + 1 + 1, 1, none⟩ rfl (show w.heap.size + 1 + 1 < w2.heap.size by omega) (.slice A4 ds.length c4)).low ⟨w.heap.size + 1, 0, none⟩ rfl (show w.heap.size + 1 < w2.heap.size by omega) (.slice A3 fs.length c3)).low ⟨w.heap.size + 1, 1, none⟩ rfl (show w.heap.size + 1 < w2.heap.size by omega) (.slice A4 ds.length c4)
  have hBF := ((hB3.setCell (p := ⟨w.heap.size + 1 + 1, 1, none⟩) (show w.heap.size ≤ w.heap.size + 1 + 1 by omega) (.slice A4 ds.length c4)).setCell (p := ⟨w.heap.size + 1, 0, none⟩) (show w.heap.size ≤ w.heap.size + 1 by omega) (.slice A3 fs.length c3)).setCell (p := ⟨w.heap.size + 1, 1, none⟩) (show w.heap.size ≤ w.heap.size + 1 by omega) (.slice A4 ds.length c4)
  have HF := Lib.hid (⟨_, _, rfl, L1.mono (by omega), L2.mono (by omega), hne, hBF⟩ : LevNew w fs ds (.returned (.agg #[.slice A3 fs.length c3, .slice A4 ds.length c4])) _)
  clear L1 L2 hBF hr23 hr3 hb3 HB HR2 hB3 hB2 hw1
  go_wp2_with fail
  generalize hWF : (((w3.setCell ⟨w.heap.size + 1 + 1, 1, none⟩ (.slice A4 ds.length c4)).setCell ⟨w.heap.size + 1, 0, none⟩ (.slice A3 fs.length c3)).setCell ⟨w.heap.size + 1, 1, none⟩ (.slice A4 ds.length c4)) = WF at *
  clear hWF n2 n3 n4 n5 r1 r2 r3
  refine bodyPost_ret (v := .agg #[.slice A3 fs.length c3, .slice A4 ds.length c4]) ?_ rfl HF.out
  simp [results, Try.f42, go_sem, e0, e1]
/-- levels that are only read -/
def RLev (w : World) (x : Value) (fs ds : List Int) : Prop := ∃ v u, x = .agg #[v, u] ∧ RInts w v fs ∧ RInts w u ds
theorem RLev.below {w w' : World} {x : Value} {fs ds : List Int} (h : RLev w x fs ds) (hb : Below w.heap.size w w') : RLev w' x fs ds := by
  obtain ⟨v, u, e, h1, h2⟩ := h
  exact ⟨v, u, e, h1.below hb, h2.below hb⟩
theorem RInts.max {w : World} {v : Value} {xs : List Int} (h : RInts w v xs) : xs.length ≤ 9223372036854775807 := by
  obtain ⟨A, c, rfl⟩ := h.shape
  have := h.room _ _ _ rfl
  unfold maxLen at this
  omega
theorem szLevels_ret (x : Value) (fs ds : List Int) (left : Int) (w : World) (h : RLev w x fs ds) (h0 : 0 ≤ left ∧ left ≤ 1048576) :
    Calls Try.prog 40 #[x, .int .i64 left] w (Ret w (.int .i64 (szLv left fs.length ds.length))) := by
  obtain ⟨v, u, rfl, hF, hD⟩ := h
  exact szLevels_any v u fs ds left w hF hD hF.max hD.max h0
theorem szLv_no {n m : Nat} (h : ¬ (n + m ≤ 1048576)) : szLv 1048576 n m < 0 := by
  unfold szLv
  split
  · omega
  · split <;> omega
theorem szLv_yes {n m : Nat} (h : n + m ≤ 1048576) : szLv 1048576 n m = 1048576 - n - m := by unfold szLv; rw [if_neg (by omega), if_neg (by omega)]
/-- levels of the call's own -/
def OLev (w : World) (B : Nat) (x : Value) (fs ds : List Int) : Prop := ∃ v u, x = .agg #[v, u] ∧ IRow w B v fs ∧ IRow w B u ds ∧ ∀ q, v.ownBlock = some q → u.ownBlock ≠ some q
theorem OLev.read {w : World} {B : Nat} {x : Value} {fs ds : List Int} (h : OLev w B x fs ds) : RLev w x fs ds := by
  obtain ⟨v, u, e, h1, h2, _⟩ := h
  exact ⟨v, u, e, RInts.of_row h1, RInts.of_row h2⟩
theorem OLev.below {w w' : World} {B : Nat} {x : Value} {fs ds : List Int} (h : OLev w B x fs ds) (hb : Below w.heap.size w w') : OLev w' B x fs ds := by
  obtain ⟨v, u, e, h1, h2, h3⟩ := h
  exact ⟨v, u, e, h1.below hb, h2.below hb, h3⟩
theorem toLevels_ret (x : Value) (fs ds : List Int) (w : World) (h : RLev w x fs ds) (h1 : fs.length ≤ 1048576) (h2 : ds.length ≤ 1048576) :
    Calls Try.prog 42 #[x] w fun e w' => ∃ x', e = .returned x' ∧ OLev w' w.heap.size x' fs ds ∧ Below w.heap.size w w' := by
  obtain ⟨v, u, rfl, hF, hD⟩ := h
  exact (toLevels_any v u fs ds w hF hD h1 h2).mono fun e w' ⟨v', u', e1, e2, e3, e4, e5⟩ => ⟨_, e1, ⟨v', u', rfl, e2, e3, e4⟩, e5⟩
set_option maxRecDepth 100000 in
set_option maxHeartbeats 1600000 in
theorem eqLevels_same (x y : Value) (fs ds : List Int) (B B2 : Nat) (w : World) (hx : OLev w B x fs ds) (hy : OLev w B2 y fs ds) (h1 : fs.length ≤ 1048576) (h2 : ds.length ≤ 1048576) :
    Calls Try.prog 44 #[x, y] w (Ret w (.bool true)) := by
  obtain ⟨v1, u1, rfl, a1, a2, _⟩ := hx
  obtain ⟨v2, u2, rfl, c1, c2, _⟩ := hy
  obtain ⟨W2, hW2⟩ : ∃ W, W = (w.alloc (.cells #[v1, u1] 45)).alloc (.cells #[v2, u2] 45) := ⟨_, rfl⟩
  have hb : Below w.heap.size w W2 := by rw [hW2]; exact ((Below.refl _ _).alloc (Nat.le_refl _) _).alloc (by simp) _
  have A1 := (a1.below hb)
  have A2 := (a2.below hb)
  have C1 := (c1.below hb)
  have C2 := (c2.below hb)
  have H1 := Lib.hid (eqInts_same v1 v2 fs B B2 W2 A1 C1 (by omega))
  have H2 : Hid (∀ n, Calls Try.prog 49 #[u1, u2] (W2.drewN n) fun e w' => e = .returned (.bool true) ∧ ∃ m, w' = (W2.drewN n).drewN m) := Lib.hid fun n => eqInts_same u1 u2 ds B B2 _ (A2.drewN n) (C2.drewN n) (by omega)
  obtain ⟨X1, y1, rfl⟩ := a1.shape
  obtain ⟨X2, y2, rfl⟩ := a2.shape
  obtain ⟨X3, y3, rfl⟩ := c1.shape
  obtain ⟨X4, y4, rfl⟩ := c2.shape
  have b1 : W2.cell? ⟨w.heap.size, 1, none⟩ = some (.slice X2 ds.length y2) := by rw [hW2]; simp [go_sem]
  have b2 : W2.cell? ⟨w.heap.size + 1, 1, none⟩ = some (.slice X4 ds.length y4) := by rw [hW2]; simp [go_sem]
  have HW2 := Lib.hid hW2
  clear a1 a2 c1 c2 A1 A2 C1 C2 hW2
  have tok1 : True := trivial
  go_enter Try.func44, Try.ntmps44
  go_wp2_with fail
  rw [← HW2.out]
  refine H1.out.mono ?_
  rintro e w1 ⟨rfl, n, rfl⟩
  have b3 : (W2.drewN n).cell? ⟨w.heap.size, 1, none⟩ = some (.slice X2 ds.length y2) := b1
  have b4 : (W2.drewN n).cell? ⟨w.heap.size + 1, 1, none⟩ = some (.slice X4 ds.length y4) := b2
  have hbn := below_drewN hb n
  have HH := Lib.hid (H2.out n)
  generalize W2.drewN n = W5 at *
  go_wp2_with fail
  refine HH.out.mono ?_
  rintro e w2 ⟨rfl, m, rfl⟩
  go_wp2_with fail
  go_ret
  exact ⟨rfl, below_drewN hbn m⟩
end Go.Proofs.Ytnmmgpmhpjjehaa
