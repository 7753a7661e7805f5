/- Region 3 of the model's FirstWonOfWinners: two calls, two boxes and two stores, told by what has been done. -/
import Derived.Test.YtfimcadnlhohlaaRaS
import Derived.Test.YtfimcadnlhohlaaRqLaw
import Derived.Test.YtfimcadnlhohlaaAnyInv
namespace Go.Proofs.Ytfimcadnlhohlaa
open Go.RowKit
set_option linter.unusedVariables false
def fwE (i g n d pa qa pb qb : Int) : Nat → Value
  | 0 => .int .i64 i
  | 1 => .int .i64 (i + 1)
  | 2 => .int .i64 g
  | 3 => .agg #[.int .i64 n, .int .i64 d]
  | 4 => .agg #[.int .i64 pa, .int .i64 qa]
  | 5 => .int .i64 i
  | 6 => .int .i64 g
  | 7 => .agg #[.int .i64 n, .int .i64 d]
  | _ => .agg #[.int .i64 pb, .int .i64 qb]
def upw (u : Nat → Value) (i : Nat) (v : Value) : Nat → Value := fun j => if j = i then v else u j
theorem upw_same (u : Nat → Value) (i : Nat) (v : Value) : upw u i v i = v := by simp [upw]
theorem upw_other {u : Nat → Value} {i j : Nat} {v : Value} (h : j ≠ i) : upw u i v j = u j := by simp [upw, h]
/-- a box that is empty or holds two numbers -/
def FBox (b : Nat) (x y : Int) (full : Bool) (W : World) : Prop :=
  if full then QB b x y W else W.cell? ⟨b, 0, none⟩ = some (.int .i64 0) ∧ W.cell? ⟨b, 1, none⟩ = some (.int .i64 0) ∧ W.frozen? ⟨b, 0, none⟩ = false ∧ W.frozen? ⟨b, 1, none⟩ = false
theorem FBox.kept {b : Nat} {x y : Int} {full : Bool} {W W' : World} (h : FBox b x y full W) (hl : b < W.heap.size) (hb : Below W.heap.size W W') : FBox b x y full W' := by
  unfold FBox at *
  split
  · rename_i c
    rw [if_pos c] at h
    exact h.below hb
  · rename_i c
    rw [if_neg c] at h
    exact ⟨(hb.cell (p := ⟨b, 0, none⟩) hl).trans h.1, (hb.cell (p := ⟨b, 1, none⟩) hl).trans h.2.1, (hb.frozen (p := ⟨b, 0, none⟩) hl).trans h.2.2.1, (hb.frozen (p := ⟨b, 1, none⟩) hl).trans h.2.2.2⟩
structure R13 (w : World) (i g n d pa qa pb qb : Int) (L : Nat → Bool) (W : World) (u : Nat → Value) : Prop where
  ra : RA w n d W
  val : ∀ j, j ≤ 8 → L j = true → u j = fwE i g n d pa qa pb qb j
  p9 : L 9 = true → ∃ b, u 9 = .pointer (some ⟨b, 0, none⟩) ∧ w.heap.size + 1 < b ∧ b < W.heap.size ∧ FBox b pa qa (L 11) W
  p10 : L 10 = true → ∃ b, u 10 = .pointer (some ⟨b, 0, none⟩) ∧ w.heap.size + 1 < b ∧ b < W.heap.size ∧ FBox b pb qb (L 12) W
  sep : L 9 = true → L 10 = true → u 9 ≠ u 10
  f11 : L 11 = true → L 9 = true ∧ L 4 = true
  f12 : L 12 = true → L 10 = true ∧ L 8 = true
namespace R13
variable {w W W' : World} {i g n d pa qa pb qb : Int} {L : Nat → Bool} {u : Nat → Value}
theorem kept13 (h : R13 w i g n d pa qa pb qb L W u) (hb : Below W.heap.size W W') : R13 w i g n d pa qa pb qb L W' u where
  ra := h.ra.kept hb
  val := h.val
  p9 := fun e => by
    obtain ⟨b, h1, h2, h3, h4⟩ := h.p9 e
    exact ⟨b, h1, h2, Nat.lt_of_lt_of_le h3 hb.size, h4.kept h3 hb⟩
  p10 := fun e => by
    obtain ⟨b, h1, h2, h3, h4⟩ := h.p10 e
    exact ⟨b, h1, h2, Nat.lt_of_lt_of_le h3 hb.size, h4.kept h3 hb⟩
  sep := h.sep
  f11 := h.f11
  f12 := h.f12
/-- a slot below 9 is set -/
theorem setv (h : R13 w i g n d pa qa pb qb L W u) (j : Nat) (hj : j ≤ 8) (v : Value) (hv : v = fwE i g n d pa qa pb qb j) : R13 w i g n d pa qa pb qb (upd L j) W (upw u j v) where
  ra := h.ra
  val := fun k hk e => by
    by_cases c : k = j
    · subst c; rw [upw_same]; exact hv
    · rw [upw_other c]; exact h.val k hk (by rwa [upd_other c] at e)
  p9 := by rw [upd_other (by omega), upw_other (by omega), upd_other (by omega)]; exact h.p9
  p10 := by rw [upd_other (by omega), upw_other (by omega), upd_other (by omega)]; exact h.p10
  sep := by rw [upd_other (by omega), upd_other (by omega), upw_other (by omega), upw_other (by omega)]; exact h.sep
  f11 := by
    rw [upd_other (by omega), upd_other (by omega)]
    intro e
    refine ⟨(h.f11 e).1, ?_⟩
    by_cases c : 4 = j
    · subst c; exact upd_same _ _
    · rw [upd_other c]; exact (h.f11 e).2
  f12 := by
    rw [upd_other (by omega), upd_other (by omega)]
    intro e
    refine ⟨(h.f12 e).1, ?_⟩
    by_cases c : 8 = j
    · subst c; exact upd_same _ _
    · rw [upd_other c]; exact (h.f12 e).2
/-- the first box -/
theorem box9 (h : R13 w i g n d pa qa pb qb L W u) (hL : L 9 = false) : R13 w i g n d pa qa pb qb (upd L 9) (W.alloc (.cells #[.int .i64 0, .int .i64 0] 25)) (upw u 9 (.pointer (some ⟨W.heap.size, 0, none⟩))) := by
  have hk := h.kept13 ((Below.refl W.heap.size W).alloc (Nat.le_refl _) (.cells #[.int .i64 0, .int .i64 0] 25))
  have n11 : L 11 = false := by
    cases e : L 11 with
    | false => rfl
    | true => have := (h.f11 e).1; rw [hL] at this; cases this
  exact {
    ra := hk.ra
    val := fun k hj e => by rw [upw_other (by omega)]; exact h.val k hj (by rwa [upd_other (by omega)] at e)
    p9 := fun _ => ⟨W.heap.size, upw_same _ _ _, h.ra.lt, by simp, by
      rw [upd_other (by decide), n11]
      unfold FBox
      rw [if_neg (by simp)]
      exact ⟨by simp [go_sem], by simp [go_sem], by simp [go_sem], by simp [go_sem]⟩⟩
    p10 := by rw [upd_other (by decide), upw_other (by decide), upd_other (by decide)]; exact hk.p10
    sep := fun _ e => by
      rw [upw_same, upw_other (by decide)]
      rw [upd_other (by decide)] at e
      obtain ⟨b, k1, _, k3, _⟩ := h.p10 e
      rw [k1]
      intro e2
      injection e2 with e2
      injection e2 with e2
      injection e2 with e2
      omega
    f11 := fun e => by rw [upd_other (by decide), n11] at e; cases e
    f12 := by rw [upd_other (by decide), upd_other (by decide), upd_other (by decide)]; exact h.f12 }
theorem box10 (h : R13 w i g n d pa qa pb qb L W u) (hL : L 10 = false) : R13 w i g n d pa qa pb qb (upd L 10) (W.alloc (.cells #[.int .i64 0, .int .i64 0] 25)) (upw u 10 (.pointer (some ⟨W.heap.size, 0, none⟩))) := by
  have hk := h.kept13 ((Below.refl W.heap.size W).alloc (Nat.le_refl _) (.cells #[.int .i64 0, .int .i64 0] 25))
  have n12 : L 12 = false := by
    cases e : L 12 with
    | false => rfl
    | true => have := (h.f12 e).1; rw [hL] at this; cases this
  exact {
    ra := hk.ra
    val := fun k hj e => by rw [upw_other (by omega)]; exact h.val k hj (by rwa [upd_other (by omega)] at e)
    p10 := fun _ => ⟨W.heap.size, upw_same _ _ _, h.ra.lt, by simp, by
      rw [upd_other (by decide), n12]
      unfold FBox
      rw [if_neg (by simp)]
      exact ⟨by simp [go_sem], by simp [go_sem], by simp [go_sem], by simp [go_sem]⟩⟩
    p9 := by rw [upd_other (by decide), upw_other (by decide), upd_other (by decide)]; exact hk.p9
    sep := fun e _ => by
      rw [upw_same, upw_other (by decide)]
      rw [upd_other (by decide)] at e
      obtain ⟨b, k1, _, k3, _⟩ := h.p9 e
      rw [k1]
      intro e2
      injection e2 with e2
      injection e2 with e2
      injection e2 with e2
      omega
    f12 := fun e => by rw [upd_other (by decide), n12] at e; cases e
    f11 := by rw [upd_other (by decide), upd_other (by decide), upd_other (by decide)]; exact h.f11 }
/-- two cells of a block that is no other's -/
theorem qset {W : World} {b : Nat} (x y : Int) (c0 : ∃ z, W.cell? ⟨b, 0, none⟩ = some z) (c1 : ∃ z, W.cell? ⟨b, 1, none⟩ = some z) (hl : b < W.heap.size) : QB b x y ((W.setCell ⟨b, 0, none⟩ (.int .i64 x)).setCell ⟨b, 1, none⟩ (.int .i64 y)) := by
  obtain ⟨z0, h0⟩ := c0
  obtain ⟨z1, h1⟩ := c1
  exact ⟨(World.cell?_setCell_other _ _ _ _ (by simp)).trans (World.cell?_setCell_same' _ _ _ (by rw [h0]; rfl)), World.cell?_setCell_same' _ _ _ (by rw [World.cell?_setCell_other _ _ _ _ (by simp), h1]; rfl), by simpa [World.setCell] using hl⟩
theorem fbox_other {W : World} {b c : Nat} {x y u v : Int} {full : Bool} (hne : c ≠ b) (h : FBox c u v full W) : FBox c u v full ((W.setCell ⟨b, 0, none⟩ (.int .i64 x)).setCell ⟨b, 1, none⟩ (.int .i64 y)) := by
  have e : ∀ o, ((W.setCell ⟨b, 0, none⟩ (.int .i64 x)).setCell ⟨b, 1, none⟩ (.int .i64 y)).cell? ⟨c, o, none⟩ = W.cell? ⟨c, o, none⟩ := fun o => by
    rw [World.cell?_setCell_other _ _ _ _ (by intro e; injection e with e; omega), World.cell?_setCell_other _ _ _ _ (by intro e; injection e with e; omega)]
  have f : ∀ o, ((W.setCell ⟨b, 0, none⟩ (.int .i64 x)).setCell ⟨b, 1, none⟩ (.int .i64 y)).frozen? ⟨c, o, none⟩ = W.frozen? ⟨c, o, none⟩ := fun o => by
    rw [World.frozen?_setCell, World.frozen?_setCell]
  unfold FBox at *
  split
  · rename_i q
    rw [if_pos q] at h
    exact ⟨(e 0).trans h.c0, (e 1).trans h.c1, by simpa [World.setCell] using h.lt⟩
  · rename_i q
    rw [if_neg q] at h
    exact ⟨(e 0).trans h.1, (e 1).trans h.2.1, (f 0).trans h.2.2.1, (f 1).trans h.2.2.2⟩
theorem ra_other {W : World} {b : Nat} {n d x y : Int} (hb : w.heap.size + 1 < b) (h : RA w n d W) : RA w n d ((W.setCell ⟨b, 0, none⟩ (.int .i64 x)).setCell ⟨b, 1, none⟩ (.int .i64 y)) := by
  have e : ∀ c o, c < b → ((W.setCell ⟨b, 0, none⟩ (.int .i64 x)).setCell ⟨b, 1, none⟩ (.int .i64 y)).cell? ⟨c, o, none⟩ = W.cell? ⟨c, o, none⟩ := fun c o hc => by
    rw [World.cell?_setCell_other _ _ _ _ (by intro e; injection e with e; omega), World.cell?_setCell_other _ _ _ _ (by intro e; injection e with e; omega)]
  have f : ∀ c o, ((W.setCell ⟨b, 0, none⟩ (.int .i64 x)).setCell ⟨b, 1, none⟩ (.int .i64 y)).frozen? ⟨c, o, none⟩ = W.frozen? ⟨c, o, none⟩ := fun c o => by
    rw [World.frozen?_setCell, World.frozen?_setCell]
  obtain ⟨z0, h0⟩ := h.c0
  obtain ⟨z1, h1⟩ := h.c1
  exact ⟨⟨(e _ _ (by omega)).trans h.r.1, (e _ _ (by omega)).trans h.r.2.1, by simpa [World.setCell] using h.r.2.2.1, (h.r.2.2.2.setCell (p := ⟨b, 0, none⟩) (by show w.heap.size ≤ b; omega) _).setCell (p := ⟨b, 1, none⟩) (by show w.heap.size ≤ b; omega) _⟩,
    ⟨z0, (e _ _ (by omega)).trans h0⟩, ⟨z1, (e _ _ (by omega)).trans h1⟩, (f _ _).trans h.f0, (f _ _).trans h.f1, by simpa [World.setCell] using h.lt⟩
theorem empty_cells {b : Nat} {x y : Int} {W : World} (h : FBox b x y false W) : W.cell? ⟨b, 0, none⟩ = some (.int .i64 0) ∧ W.cell? ⟨b, 1, none⟩ = some (.int .i64 0) ∧ W.frozen? ⟨b, 0, none⟩ = false ∧ W.frozen? ⟨b, 1, none⟩ = false := by
  unfold FBox at h
  rwa [if_neg (by simp)] at h
theorem full_box {b : Nat} {x y : Int} {W : World} (h : FBox b x y true W) : QB b x y W := by
  unfold FBox at h
  rwa [if_pos rfl] at h
theorem mk_full {b : Nat} {x y : Int} {W : World} (h : QB b x y W) : FBox b x y true W := by
  unfold FBox
  rwa [if_pos rfl]
theorem store11 (h : R13 w i g n d pa qa pb qb L W u) {b : Nat} (hu : u 9 = .pointer (some ⟨b, 0, none⟩)) (h9 : L 9 = true) (h4 : L 4 = true) (hL : L 11 = false) :
    R13 w i g n d pa qa pb qb (upd L 11) ((W.setCell ⟨b, 0, none⟩ (.int .i64 pa)).setCell ⟨b, 1, none⟩ (.int .i64 qa)) u := by
  obtain ⟨b', k1, k2, k3, k4⟩ := h.p9 h9
  rw [hu] at k1
  injection k1 with k1
  injection k1 with k1
  injection k1 with k1
  subst k1
  rw [hL] at k4
  have hc := empty_cells k4
  have hsz : ((W.setCell ⟨b, 0, none⟩ (.int .i64 pa)).setCell ⟨b, 1, none⟩ (.int .i64 qa)).heap.size = W.heap.size := by simp [World.setCell]
  exact {
    ra := ra_other k2 h.ra
    val := fun k hj e => h.val k hj (by rwa [upd_other (by omega)] at e)
    p9 := fun _ => ⟨b, hu, k2, by rw [hsz]; exact k3, by rw [upd_same]; exact mk_full (qset pa qa ⟨_, hc.1⟩ ⟨_, hc.2.1⟩ k3)⟩
    p10 := fun e => by
      rw [upd_other (by decide)] at e
      obtain ⟨c, m1, m2, m3, m4⟩ := h.p10 e
      refine ⟨c, m1, m2, by rw [hsz]; exact m3, ?_⟩
      rw [upd_other (by decide)]
      refine fbox_other (fun ec => ?_) m4
      subst ec
      exact h.sep h9 e (by rw [hu, m1])
    sep := by rw [upd_other (by decide), upd_other (by decide)]; exact h.sep
    f11 := fun _ => ⟨by rw [upd_other (by decide)]; exact h9, by rw [upd_other (by decide)]; exact h4⟩
    f12 := by rw [upd_other (by decide), upd_other (by decide), upd_other (by decide)]; exact h.f12 }
theorem store12 (h : R13 w i g n d pa qa pb qb L W u) {b : Nat} (hu : u 10 = .pointer (some ⟨b, 0, none⟩)) (h10 : L 10 = true) (h8 : L 8 = true) (hL : L 12 = false) :
    R13 w i g n d pa qa pb qb (upd L 12) ((W.setCell ⟨b, 0, none⟩ (.int .i64 pb)).setCell ⟨b, 1, none⟩ (.int .i64 qb)) u := by
  obtain ⟨b', k1, k2, k3, k4⟩ := h.p10 h10
  rw [hu] at k1
  injection k1 with k1
  injection k1 with k1
  injection k1 with k1
  subst k1
  rw [hL] at k4
  have hc := empty_cells k4
  have hsz : ((W.setCell ⟨b, 0, none⟩ (.int .i64 pb)).setCell ⟨b, 1, none⟩ (.int .i64 qb)).heap.size = W.heap.size := by simp [World.setCell]
  exact {
    ra := ra_other k2 h.ra
    val := fun k hj e => h.val k hj (by rwa [upd_other (by omega)] at e)
    p10 := fun _ => ⟨b, hu, k2, by rw [hsz]; exact k3, by rw [upd_same]; exact mk_full (qset pb qb ⟨_, hc.1⟩ ⟨_, hc.2.1⟩ k3)⟩
    p9 := fun e => by
      rw [upd_other (by decide)] at e
      obtain ⟨c, m1, m2, m3, m4⟩ := h.p9 e
      refine ⟨c, m1, m2, by rw [hsz]; exact m3, ?_⟩
      rw [upd_other (by decide)]
      refine fbox_other (fun ec => ?_) m4
      subst ec
      exact h.sep e h10 (by rw [hu, m1])
    sep := by rw [upd_other (by decide), upd_other (by decide)]; exact h.sep
    f12 := fun _ => ⟨by rw [upd_other (by decide)]; exact h10, by rw [upd_other (by decide)]; exact h8⟩
    f11 := by rw [upd_other (by decide), upd_other (by decide), upd_other (by decide)]; exact h.f11 }
end R13
end Go.Proofs.Ytfimcadnlhohlaa
