/- A drawn region of two loads and two stores into boxes that were made before it, told by what has been done. -/
import Derived.Test.YtahnknbggacndaaRegG
namespace Go.Proofs.Ytahnknbggacndaa
open Go.RowKit
set_option linter.unusedVariables false
structure SideR (B g1 g2 b1 b2 : Nat) (c1 c2 z : List Value) : Prop where
  h1 : B ≤ b1
  h2 : B ≤ b2
  bb : b1 ≠ b2
  g11 : g1 ≠ b1
  g12 : g1 ≠ b2
  g21 : g2 ≠ b1
  g22 : g2 ≠ b2
  l1 : c1.length = z.length
  l2 : c2.length = z.length
structure R8 (w0 : World) (B g1 g2 b1 b2 : Nat) (c1 c2 z : List Value) (v1 v2 : Value) (L : Nat → Bool) (W : World) (u : Nat → Value) : Prop where
  below : Below B w0 W
  k1 : ∀ i v, c1[i]? = some v → W.cell? ⟨g1, i, none⟩ = some v
  k2 : ∀ i v, c2[i]? = some v → W.cell? ⟨g2, i, none⟩ = some v
  d1 : CellsAt W b1 (if L 2 = true then c1 else z)
  d2 : CellsAt W b2 (if L 3 = true then c2 else z)
  e0 : L 0 = true → u 0 = v1
  e1 : L 1 = true → u 1 = v2
  e4 : L 4 = true → u 4 = .bool true
namespace R8
variable {w0 W : World} {B g1 g2 b1 b2 : Nat} {c1 c2 z : List Value} {v1 v2 : Value} {L : Nat → Bool} {u : Nat → Value}
theorem set0 (h : R8 w0 B g1 g2 b1 b2 c1 c2 z v1 v2 L W u) : R8 w0 B g1 g2 b1 b2 c1 c2 z v1 v2 (upd L 0) W (upg u 0 v1) :=
  ⟨h.below, h.k1, h.k2, h.d1, h.d2, fun _ => upg_same _ _ _, h.e1, h.e4⟩
theorem set1 (h : R8 w0 B g1 g2 b1 b2 c1 c2 z v1 v2 L W u) : R8 w0 B g1 g2 b1 b2 c1 c2 z v1 v2 (upd L 1) W (upg u 1 v2) :=
  ⟨h.below, h.k1, h.k2, h.d1, h.d2, h.e0, fun _ => upg_same _ _ _, h.e4⟩
theorem set4 (h : R8 w0 B g1 g2 b1 b2 c1 c2 z v1 v2 L W u) : R8 w0 B g1 g2 b1 b2 c1 c2 z v1 v2 (upd L 4) W (upg u 4 (.bool true)) :=
  ⟨h.below, h.k1, h.k2, h.d1, h.d2, h.e0, h.e1, fun _ => upg_same _ _ _⟩
theorem cells_set {b : Nat} {cs z : List Value} (hz : CellsAt W b z) (hl : cs.length = z.length) : CellsAt (RG.setN W b 0 cs) b cs := fun i v hi => by
  have hlt : i < z.length := by
    rw [← hl]
    rcases Nat.lt_or_ge i cs.length with h1 | h1
    · exact h1
    · rw [List.getElem?_eq_none h1] at hi; cases hi
  have hq := hz i (z[i]) (List.getElem?_eq_getElem hlt)
  constructor
  · have := RG.setN_at b cs 0 W i v hi ⟨_, by rw [Nat.zero_add]; exact hq.1⟩
    rwa [Nat.zero_add] at this
  · rw [RG.setN_frozen]; exact hq.2
theorem cells_other {b c : Nat} {cs xs : List Value} (h : CellsAt W c xs) (hne : c ≠ b) : CellsAt (RG.setN W b 0 cs) c xs := fun i v hi =>
  ⟨by rw [RG.setN_before b _ _ _ _ _ (.inl hne)]; exact (h i v hi).1, by rw [RG.setN_frozen]; exact (h i v hi).2⟩
theorem st2 (s : SideR B g1 g2 b1 b2 c1 c2 z) (h : R8 w0 B g1 g2 b1 b2 c1 c2 z v1 v2 L W u) (hL : L 2 = false) : R8 w0 B g1 g2 b1 b2 c1 c2 z v1 v2 (upd L 2) (RG.setN W b1 0 c1) u := by
  have hd := h.d1
  rw [hL, if_neg (by simp)] at hd
  exact ⟨RG.setN_below s.h1 _ _ _ _ h.below, fun i v hi => by rw [RG.setN_before b1 _ _ _ _ _ (.inl s.g11)]; exact h.k1 i v hi, fun i v hi => by rw [RG.setN_before b1 _ _ _ _ _ (.inl s.g21)]; exact h.k2 i v hi,
    by rw [upd_same, if_pos rfl]; exact cells_set hd s.l1, cells_other (by rw [upd_other (by decide)]; exact h.d2) s.bb.symm, h.e0, h.e1, h.e4⟩
theorem st3 (s : SideR B g1 g2 b1 b2 c1 c2 z) (h : R8 w0 B g1 g2 b1 b2 c1 c2 z v1 v2 L W u) (hL : L 3 = false) : R8 w0 B g1 g2 b1 b2 c1 c2 z v1 v2 (upd L 3) (RG.setN W b2 0 c2) u := by
  have hd := h.d2
  rw [hL, if_neg (by simp)] at hd
  exact ⟨RG.setN_below s.h2 _ _ _ _ h.below, fun i v hi => by rw [RG.setN_before b2 _ _ _ _ _ (.inl s.g12)]; exact h.k1 i v hi, fun i v hi => by rw [RG.setN_before b2 _ _ _ _ _ (.inl s.g22)]; exact h.k2 i v hi,
    cells_other (by rw [upd_other (by decide)]; exact h.d1) s.bb, by rw [upd_same, if_pos rfl]; exact cells_set hd s.l2, h.e0, h.e1, h.e4⟩
end R8
end Go.Proofs.Ytahnknbggacndaa
