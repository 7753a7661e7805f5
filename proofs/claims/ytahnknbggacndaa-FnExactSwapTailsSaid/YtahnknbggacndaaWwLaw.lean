/- Two ways that a law holds in boxes. -/
import Derived.Test.YtahnknbggacndaaDmS
import Derived.Deep.RegionHeld3
namespace Go.Proofs.Ytahnknbggacndaa
open Go.RowKit
set_option linter.unusedVariables false
theorem W2.new (w : World) (x y u v : Int) (s t : ByteArray) (a b : TypeId) : W2 w x y u v s t ((w.alloc (.cells #[.int .i64 x, .int .i64 y, .string s] a)).alloc (.cells #[.int .i64 u, .int .i64 v, .string t] b)) :=
  ⟨⟨by simp [go_sem], by simp [go_sem], by simp [go_sem], by simp; omega⟩, ⟨by simp [go_sem], by simp [go_sem], by simp [go_sem], by simp⟩, ((Below.refl _ _).alloc (Nat.le_refl _) _).alloc (by simp) _⟩
def W2C (w : World) (x y u v : Int) (s t : ByteArray) (X : World) : Prop := X.cell? ⟨w.heap.size, 0, none⟩ = some (.int .i64 x) ∧ X.cell? ⟨w.heap.size, 1, none⟩ = some (.int .i64 y) ∧ X.cell? ⟨w.heap.size, 2, none⟩ = some (.string s) ∧ X.cell? ⟨w.heap.size + 1, 0, none⟩ = some (.int .i64 u) ∧ X.cell? ⟨w.heap.size + 1, 1, none⟩ = some (.int .i64 v) ∧ X.cell? ⟨w.heap.size + 1, 2, none⟩ = some (.string t) ∧ W2 w x y u v s t X
theorem w2Mk {w X : World} {x y u v : Int} {s t : ByteArray} (h : W2 w x y u v s t X) : W2C w x y u v s t X := ⟨h.a.c0, h.a.c1, h.a.c2, h.b.c0, h.b.c1, h.b.c2, h⟩
theorem w2Of {w X : World} {x y u v : Int} {s t : ByteArray} (h : W2C w x y u v s t X) : W2 w x y u v s t X := h.2.2.2.2.2.2
theorem w2Keep {w X X' : World} {x y u v : Int} {s t : ByteArray} (h : W2C w x y u v s t X) (hb : Below X.heap.size X X') : W2C w x y u v s t X' := w2Mk ((w2Of h).kept hb)
end Go.Proofs.Ytahnknbggacndaa
