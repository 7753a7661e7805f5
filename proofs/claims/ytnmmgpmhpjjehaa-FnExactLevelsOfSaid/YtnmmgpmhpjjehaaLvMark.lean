/- markLevels, heldLevels. -/
import Derived.Test.YtnmmgpmhpjjehaaLvLaw
namespace Go.Proofs.Ytnmmgpmhpjjehaa
open Go.RowKit
set_option linter.unusedVariables false
theorem irow_kept2 {w w' : World} {B : Nat} {v : Value} {xs : List Int} {row : Option Nat} (h : IRow w B v xs) (hg : w.grownBy w' row) (hne : ∀ q, row = some q → v.ownBlock ≠ some q) : IRow w' B v xs :=
  World.ownsRow.kept h hg (by
    cases e : v.ownBlock with
    | none => exact .inl rfl
    | some k =>
      right
      intro e2
      exact hne k e2.symm e)
theorem cell_grownI {w w' : World} {row : Option Nat} (h : w.grownBy w' row) {b : Nat} (hb : b < w.heap.size) (hne : some b ≠ row) (o : Nat) : w'.cell? ⟨b, o, none⟩ = w.cell? ⟨b, o, none⟩ := by
  unfold World.cell?
  rw [h.block b hb hne]
def MarkRet (B : Nat) (m : Int) (v u : Value) (n k : Nat) (w : World) (e : Ending) (w' : World) : Prop :=
  e = .returned (.int .i64 (m + n + k)) ∧ IRow w' B v (marks m n) ∧ IRow w' B u (marks (m + n) k) ∧ ∃ w1, (w.alloc (.cells #[v, u] 45)).grownBy w1 v.ownBlock ∧ w1.grownBy w' u.ownBlock
set_option maxRecDepth 100000 in
set_option maxHeartbeats 800000 in
theorem markLevels_any (v u : Value) (fs ds : List Int) (B : Nat) (m : Int) (w : World) (hF : IRow w B v fs) (hD : IRow w B u ds) (hne : ∀ q, v.ownBlock = some q → u.ownBlock ≠ some q) (h1 : fs.length ≤ 1048576) (h2 : ds.length ≤ 1048576) (hm : 0 ≤ m ∧ m ≤ 1048576) :
    Calls Try.prog 50 #[.agg #[v, u], .int .i64 m] w (MarkRet B m v u fs.length ds.length w) := by
  obtain ⟨W, hW⟩ : ∃ W, W = w.alloc (.cells #[v, u] 45) := ⟨_, rfl⟩
  have hF1 : IRow W B v fs := by rw [hW]; exact hF.alloc _
  have hD1 : IRow W B u ds := by rw [hW]; exact hD.alloc _
  have hz : W.heap.size = w.heap.size + 1 := by rw [hW]; simp
  have c1 : W.cell? ⟨w.heap.size, 1, none⟩ = some u := by rw [hW]; simp [go_sem]
  have hvb : some w.heap.size ≠ v.ownBlock := fun e => by have := (hF.blk _ e.symm).2; omega
  have HA := Lib.hid (markInts_any v fs B m W hF1 (by omega) (by omega))
  have HB : Hid (∀ w1, IRow w1 B u ds → Calls Try.prog 51 #[u, .int .i64 (m + fs.length)] w1 fun e w' => e = .returned (.int .i64 (m + fs.length + ds.length)) ∧ IRow w' B u (marks (m + fs.length) ds.length) ∧ w1.grownBy w' u.ownBlock) := Lib.hid fun w1 h => markInts_any u ds B (m + fs.length) w1 h (by omega) (by omega)
  have HW := Lib.hid hW
  have HNE := Lib.hid hne
  obtain ⟨A, k, rfl⟩ := hF.shape
  obtain ⟨A2, k2, rfl⟩ := hD.shape
  clear hF hD hF1 hW hne
  go_enter Try.func50, Try.ntmps50
  go_wp2_with fail
  rw [← HW.out]
  refine HA.out.mono ?_
  rintro e w1 ⟨rfl, hr1, hg1⟩
  have c2 := (cell_grownI hg1 (show w.heap.size < W.heap.size by omega) hvb 1).trans c1
  have hu1 := irow_kept2 hD1 hg1 HNE.out
  clear c1 hD1
  go_wp2_with fail
  refine (HB.out _ hu1).mono ?_
  rintro e w2 ⟨rfl, hr2, hg2⟩
  have hv2 := irow_kept2 hr1 hg2 (fun q hq e => HNE.out q e hq)
  have HF : Hid (MarkRet B m (.slice A fs.length k) (.slice A2 ds.length k2) fs.length ds.length w (.returned (.int .i64 (m + fs.length + ds.length))) w2) := Lib.hid ⟨rfl, hv2, hr2, w1, by rw [← HW.out]; exact hg1, hg2⟩
  clear hv2 hr1 hr2 hu1 hg1 hg2
  go_wp2_with fail
  go_ret
  exact HF.out
set_option maxRecDepth 100000 in
set_option maxHeartbeats 800000 in
theorem heldLevels_any (v u : Value) (n k B : Nat) (m : Int) (w : World) (hF : IRow w B v (marks m n)) (hD : IRow w B u (marks (m + n) k)) (h1 : n ≤ 1048576) (h2 : k ≤ 1048576) (hm : 0 ≤ m ∧ m ≤ 1048576) :
    Calls Try.prog 60 #[.agg #[v, u], .int .i64 m] w (Ret w (.int .i64 (m + n + k))) := by
  obtain ⟨W, hW⟩ : ∃ W, W = w.alloc (.cells #[v, u] 45) := ⟨_, rfl⟩
  have hb : Below w.heap.size w W := by rw [hW]; exact (Below.refl _ _).alloc (Nat.le_refl _) _
  have HA : Hid (Calls Try.prog 52 #[v, .int .i64 m] W fun e w' => e = .returned (.int .i64 (m + n)) ∧ W = w') := Lib.hid (heldInts_any v n B m W (by rw [hW]; exact hF.alloc _) (by omega) (by omega))
  have HB : Hid (Calls Try.prog 52 #[u, .int .i64 (m + n)] W fun e w' => e = .returned (.int .i64 (m + n + k)) ∧ W = w') := Lib.hid (heldInts_any u k B (m + n) W (by rw [hW]; exact hD.alloc _) (by omega) (by omega))
  have HW := Lib.hid hW
  obtain ⟨A, q, rfl⟩ := hF.shape
  obtain ⟨A2, q2, rfl⟩ := hD.shape
  have c1 : W.cell? ⟨w.heap.size, 1, none⟩ = some (.slice A2 (marks (m + n) k).length q2) := by rw [hW]; simp [go_sem]
  have n1 : ¬ m + (n : Int) < 0 := by omega
  have n2 : ¬ m + (n : Int) + k < 0 := by omega
  clear hF hD hW
  go_enter Try.func60, Try.ntmps60
  go_wp2_with fail
  rw [← HW.out]
  refine HA.out.mono ?_
  rintro e w1 ⟨rfl, rfl⟩
  go_wp2_with fail
  refine HB.out.mono ?_
  rintro e w1 ⟨rfl, rfl⟩
  go_wp2_with fail
  go_ret
  exact ⟨rfl, hb⟩
/-- two boxes of levels, at a and b, as they lie -/
structure VCells (a b : Nat) (v u v4 u4 : Value) (W : World) : Prop where
  c0 : W.cell? ⟨a, 0, none⟩ = some v
  c1 : W.cell? ⟨a, 1, none⟩ = some u
  d0 : W.cell? ⟨b, 0, none⟩ = some v4
  d1 : W.cell? ⟨b, 1, none⟩ = some u4
  la : a < W.heap.size
  lb : b < W.heap.size
theorem VCells.below {a b : Nat} {v u v4 u4 : Value} {W W' : World} (h : VCells a b v u v4 u4 W) (hb : Below W.heap.size W W') : VCells a b v u v4 u4 W' :=
  ⟨(hb.cell (p := ⟨a, 0, none⟩) h.la).trans h.c0, (hb.cell (p := ⟨a, 1, none⟩) h.la).trans h.c1, (hb.cell (p := ⟨b, 0, none⟩) h.lb).trans h.d0, (hb.cell (p := ⟨b, 1, none⟩) h.lb).trans h.d1, Nat.lt_of_lt_of_le h.la hb.size, Nat.lt_of_lt_of_le h.lb hb.size⟩
theorem VCells.drewN {a b : Nat} {v u v4 u4 : Value} {W : World} (h : VCells a b v u v4 u4 W) (n : Nat) : VCells a b v u v4 u4 (W.drewN n) := ⟨h.c0, h.c1, h.d0, h.d1, h.la, h.lb⟩
theorem VCells.drew {a b : Nat} {v u v4 u4 : Value} {W : World} (h : VCells a b v u v4 u4 W) : VCells a b v u v4 u4 W.drew := ⟨h.c0, h.c1, h.d0, h.d1, h.la, h.lb⟩
theorem VCells.grown {a b : Nat} {v u v4 u4 : Value} {W W' : World} {row : Option Nat} (h : VCells a b v u v4 u4 W) (hg : W.grownBy W' row) (ha : some a ≠ row) (hb : some b ≠ row) : VCells a b v u v4 u4 W' :=
  ⟨(cell_grownI hg h.la ha 0).trans h.c0, (cell_grownI hg h.la ha 1).trans h.c1, (cell_grownI hg h.lb hb 0).trans h.d0, (cell_grownI hg h.lb hb 1).trans h.d1, Nat.lt_of_lt_of_le h.la hg.size, Nat.lt_of_lt_of_le h.lb hg.size⟩
theorem VCells.start (w : World) (v u : Value) : VCells w.heap.size w.heap.size v u v u (w.alloc (.cells #[v, u] 42)) := ⟨by simp [go_sem], by simp [go_sem], by simp [go_sem], by simp [go_sem], by simp, by simp⟩
theorem VCells.box {a : Nat} {v u v4 u4 : Value} {W : World} (h : VCells a a v u v u W) : VCells a W.heap.size v u v4 u4 (W.alloc (.cells #[v4, u4] 45)) := by
  have h2 := h.below ((Below.refl _ _).alloc (Nat.le_refl _) (.cells #[v4, u4] 45))
  exact ⟨h2.c0, h2.c1, by simp [go_sem], by simp [go_sem], h2.la, by simp⟩
/-- two marked rows more: what a row elsewhere and what lies below keep -/
theorem MarkRet.row {B B2 : Nat} {m : Int} {v u r : Value} {n k : Nat} {w w' : World} {e : Ending} {xs : List Int} (h : MarkRet B m v u n k w e w') (hr : IRow w B2 r xs) (h1 : ∀ q, v.ownBlock = some q → r.ownBlock ≠ some q) (h2 : ∀ q, u.ownBlock = some q → r.ownBlock ≠ some q) : IRow w' B2 r xs := by
  obtain ⟨_, _, _, w1, g1, g2⟩ := h
  exact irow_kept2 (irow_kept2 (hr.alloc _) g1 h1) g2 h2
theorem MarkRet.low {B : Nat} {m : Int} {v u : Value} {n k : Nat} {w w' w0 : World} {e : Ending} {C : Nat} (h : MarkRet B m v u n k w e w') (hb : Below C w0 w) (hC : C ≤ w.heap.size) (h1 : ∀ q, v.ownBlock = some q → C ≤ q) (h2 : ∀ q, u.ownBlock = some q → C ≤ q) : Below C w0 w' := by
  obtain ⟨_, _, _, w1, g1, g2⟩ := h
  have z1 := g1.size
  simp at z1
  exact ((hb.alloc hC _).grown g1 (by simp; omega) h1).grown g2 (by omega) h2
theorem MarkRet.cells {B : Nat} {m : Int} {v u : Value} {n k : Nat} {w w' : World} {e : Ending} {a b : Nat} {p q p4 q4 : Value} (h : MarkRet B m v u n k w e w') (hc : VCells a b p q p4 q4 w) (h1 : ∀ s, v.ownBlock = some s → s ≠ a ∧ s ≠ b) (h2 : ∀ s, u.ownBlock = some s → s ≠ a ∧ s ≠ b) : VCells a b p q p4 q4 w' := by
  obtain ⟨_, _, _, w1, g1, g2⟩ := h
  have hc1 := hc.below ((Below.refl _ _).alloc (Nat.le_refl _) (.cells #[v, u] 45))
  have hc2 := hc1.grown g1 (fun e => (h1 a e.symm).1 rfl) (fun e => (h1 b e.symm).2 rfl)
  exact hc2.grown g2 (fun e => (h2 a e.symm).1 rfl) (fun e => (h2 b e.symm).2 rfl)
theorem MarkRet.size {B : Nat} {m : Int} {v u : Value} {n k : Nat} {w w' : World} {e : Ending} (h : MarkRet B m v u n k w e w') : w.heap.size ≤ w'.heap.size := by
  obtain ⟨_, _, _, w1, g1, g2⟩ := h
  have z1 := g1.size
  have z2 := g2.size
  simp at z1
  omega
end Go.Proofs.Ytnmmgpmhpjjehaa
