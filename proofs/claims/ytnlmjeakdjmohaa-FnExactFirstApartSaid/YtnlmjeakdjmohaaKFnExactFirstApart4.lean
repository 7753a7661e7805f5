/- Pack 4 of what FnExactFirstApart needs: QbS, CqLaw. -/
import Derived.Test.YtnlmjeakdjmohaaKFnExactFirstApart3
/- Two numbers in a box. -/
namespace Go.Proofs.Ytnlmjeakdjmohaa
open Go.RowKit
set_option linter.unusedVariables false
/-- a box of two numbers at b -/
structure QB (b : Nat) (n d : Int) (X : World) : Prop where
  c0 : X.cell? ⟨b, 0, none⟩ = some (.int .i64 n)
  c1 : X.cell? ⟨b, 1, none⟩ = some (.int .i64 d)
  lt : b < X.heap.size
theorem QB.below {b : Nat} {n d : Int} {X X' : World} (h : QB b n d X) (hb : Below X.heap.size X X') : QB b n d X' :=
  ⟨(hb.cell (p := ⟨b, 0, none⟩) h.lt).trans h.c0, (hb.cell (p := ⟨b, 1, none⟩) h.lt).trans h.c1, Nat.lt_of_lt_of_le h.lt hb.size⟩
theorem QB.new (X : World) (n d : Int) (t : TypeId) : QB X.heap.size n d (X.alloc (.cells #[.int .i64 n, .int .i64 d] t)) := ⟨by simp [go_sem], by simp [go_sem], by simp⟩
end Go.Proofs.Ytnlmjeakdjmohaa

/- The laws' own words on cells: copies, comparisons. -/
namespace Go.Proofs.Ytnlmjeakdjmohaa
open Go.RowKit
set_option linter.unusedVariables false
set_option maxHeartbeats 800000 in
theorem toCell_any (n d : Int) (w : World) : Calls Try.prog 31 #[.agg #[.int .i64 n, .int .i64 d]] w (Ret w (.agg #[.int .i64 n, .int .i64 d])) := by
  go_enter Try.func31, Try.ntmps31
  go_wp2
  exact bodyPost_ret (v := .agg #[.int .i64 n, .int .i64 d]) (by simp [results, Try.f31, go_sem]) rfl ⟨rfl, (((Below.refl _ _).alloc (Nat.le_refl _) _).alloc (by simp) _).alloc (by simp; omega) _⟩
theorem eqCell_any (x y : Int) (w : World) : Calls Try.prog 78 #[.agg #[.int .i64 x, .int .i64 y], .agg #[.int .i64 x, .int .i64 y]] w (Ret w (.bool true)) := by
  go_enter Try.func78, Try.ntmps78
  go_wp2
  go_ret
  exact ⟨rfl, ((Below.refl _ _).alloc (Nat.le_refl _) _).alloc (by simp) _⟩
end Go.Proofs.Ytnlmjeakdjmohaa
