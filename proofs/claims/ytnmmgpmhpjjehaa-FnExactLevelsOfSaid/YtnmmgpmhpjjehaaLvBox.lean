/- Boxes of levels, and calls that return levels and a bool. -/
import Derived.Test.YtnmmgpmhpjjehaaLvMark
namespace Go.Proofs.Ytnmmgpmhpjjehaa
open Go.RowKit
set_option linter.unusedVariables false
/-- A call that hands back levels of its own and a bool. -/
def LevsRet (w : World) (ok : Bool) (fs ds : List Int) (e : Ending) (w' : World) : Prop :=
  ∃ x, e = .returned (.tuple #[x, .bool ok]) ∧ OLev w' w.heap.size x fs ds ∧ Below w.heap.size w w'
/-- a box of levels as it lies -/
structure VBox (a : Nat) (v u : Value) (W : World) : Prop where
  c0 : W.cell? ⟨a, 0, none⟩ = some v
  c1 : W.cell? ⟨a, 1, none⟩ = some u
  la : a < W.heap.size
theorem VBox.below {a : Nat} {v u : Value} {W W' : World} (h : VBox a v u W) (hb : Below W.heap.size W W') : VBox a v u W' :=
  ⟨(hb.cell (p := ⟨a, 0, none⟩) h.la).trans h.c0, (hb.cell (p := ⟨a, 1, none⟩) h.la).trans h.c1, Nat.lt_of_lt_of_le h.la hb.size⟩
theorem VBox.drewN {a : Nat} {v u : Value} {W : World} (h : VBox a v u W) (n : Nat) : VBox a v u (W.drewN n) := ⟨h.c0, h.c1, h.la⟩
theorem VBox.grown {a : Nat} {v u : Value} {W W' : World} {row : Option Nat} (h : VBox a v u W) (hg : W.grownBy W' row) (ha : some a ≠ row) : VBox a v u W' :=
  ⟨(cell_grownI hg h.la ha 0).trans h.c0, (cell_grownI hg h.la ha 1).trans h.c1, Nat.lt_of_lt_of_le h.la hg.size⟩
theorem VBox.start (w : World) (v u : Value) : VBox w.heap.size v u (w.alloc (.cells #[v, u] 45)) := ⟨by simp [go_sem], by simp [go_sem], by simp⟩
theorem MarkRet.box {B : Nat} {m : Int} {v u : Value} {n k : Nat} {w w' : World} {e : Ending} {a : Nat} {p q : Value} (h : MarkRet B m v u n k w e w') (hc : VBox a p q w) (h1 : ∀ s, v.ownBlock = some s → s ≠ a) (h2 : ∀ s, u.ownBlock = some s → s ≠ a) : VBox a p q w' := by
  obtain ⟨_, _, _, w1, g1, g2⟩ := h
  have hc1 := hc.below ((Below.refl _ _).alloc (Nat.le_refl _) (.cells #[v, u] 45))
  have hc2 := hc1.grown g1 (fun e => h1 a e.symm rfl)
  exact hc2.grown g2 (fun e => h2 a e.symm rfl)
/-- two rows of levels -/
def LRow (w : World) (B : Nat) (v u : Value) (fs ds : List Int) : Prop := IRow w B v fs ∧ IRow w B u ds ∧ ∀ q, v.ownBlock = some q → u.ownBlock ≠ some q
theorem LRow.olev {w : World} {B : Nat} {v u : Value} {fs ds : List Int} (h : LRow w B v u fs ds) : OLev w B (.agg #[v, u]) fs ds := ⟨v, u, rfl, h.1, h.2.1, h.2.2⟩
theorem LRow.below {w w' : World} {B : Nat} {v u : Value} {fs ds : List Int} (h : LRow w B v u fs ds) (hb : Below w.heap.size w w') : LRow w' B v u fs ds := ⟨h.1.below hb, h.2.1.below hb, h.2.2⟩
theorem LRow.drewN {w : World} {B : Nat} {v u : Value} {fs ds : List Int} (h : LRow w B v u fs ds) (n : Nat) : LRow (w.drewN n) B v u fs ds := ⟨h.1.drewN n, h.2.1.drewN n, h.2.2⟩
theorem LRow.alloc {w : World} {B : Nat} {v u : Value} {fs ds : List Int} (h : LRow w B v u fs ds) (o : Obj) : LRow (w.alloc o) B v u fs ds := ⟨h.1.alloc o, h.2.1.alloc o, h.2.2⟩
theorem LRow.kept {w w' : World} {B : Nat} {v u : Value} {fs ds : List Int} {row : Option Nat} (h : LRow w B v u fs ds) (hg : w.grownBy w' row) (h1 : ∀ q, row = some q → v.ownBlock ≠ some q) (h2 : ∀ q, row = some q → u.ownBlock ≠ some q) : LRow w' B v u fs ds :=
  ⟨irow_kept2 h.1 hg h1, irow_kept2 h.2.1 hg h2, h.2.2⟩
end Go.Proofs.Ytnmmgpmhpjjehaa
