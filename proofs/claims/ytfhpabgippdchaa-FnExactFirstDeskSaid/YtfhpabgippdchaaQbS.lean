/- Two numbers in a box. -/
import Derived.Test.YtfhpabgippdchaaOwn
namespace Go.Proofs.Ytfhpabgippdchaa
open Go.RowKit
set_option linter.unusedVariables false
/-- a box of two numbers at b -/
structure QB (b : Nat) (n d : Int) (X : World) : Prop where
  c0 : X.cell? ⟨b, 0, none⟩ = some (.int .i64 n)
  c1 : X.cell? ⟨b, 1, none⟩ = some (.int .i64 d)
  lt : b < X.heap.size
theorem QB.below {b : Nat} {n d : Int} {X X' : World} (h : QB b n d X) (hb : Below X.heap.size X X') : QB b n d X' :=
  ⟨(hb.cell (p := ⟨b, 0, none⟩) h.lt).trans h.c0, (hb.cell (p := ⟨b, 1, none⟩) h.lt).trans h.c1, Nat.lt_of_lt_of_le h.lt hb.size⟩
theorem QB.new (X : World) (n d : Int) (t : TypeId) : QB X.heap.size n d (X.alloc (.cells #[.int .i64 n, .int .i64 d] t)) := ⟨by simp [go_sem], by simp [go_sem], by simp⟩
end Go.Proofs.Ytfhpabgippdchaa
