/- The laws' own words on ratios that come in: copies, boxes. -/
import Derived.Test.YtfimcadnlhohlaaRatio
import Derived.Test.YtfimcadnlhohlaaOwn
import Derived.Handy
namespace Go.Proofs.Ytfimcadnlhohlaa
open Go.RowKit
set_option linter.unusedVariables false
set_option maxHeartbeats 800000 in
theorem toRatio_any (n d : Int) (w : World) : Calls Try.prog 19 #[.agg #[.int .i64 n, .int .i64 d]] w (Ret w (.agg #[.int .i64 n, .int .i64 d])) := by
  go_enter Try.func19, Try.ntmps19
  go_wp2
  exact bodyPost_ret (v := .agg #[.int .i64 n, .int .i64 d]) (by simp [results, Try.f19, go_sem]) rfl ⟨rfl, (((Below.refl _ _).alloc (Nat.le_refl _) _).alloc (by simp) _).alloc (by simp; omega) _⟩
/-- a box of two numbers at b -/
structure QB (b : Nat) (n d : Int) (X : World) : Prop where
  c0 : X.cell? ⟨b, 0, none⟩ = some (.int .i64 n)
  c1 : X.cell? ⟨b, 1, none⟩ = some (.int .i64 d)
  lt : b < X.heap.size
theorem QB.below {b : Nat} {n d : Int} {X X' : World} (h : QB b n d X) (hb : Below X.heap.size X X') : QB b n d X' :=
  ⟨(hb.cell (p := ⟨b, 0, none⟩) h.lt).trans h.c0, (hb.cell (p := ⟨b, 1, none⟩) h.lt).trans h.c1, Nat.lt_of_lt_of_le h.lt hb.size⟩
theorem QB.new (X : World) (n d : Int) (t : TypeId) : QB X.heap.size n d (X.alloc (.cells #[.int .i64 n, .int .i64 d] t)) := ⟨by simp [go_sem], by simp [go_sem], by simp⟩
end Go.Proofs.Ytfimcadnlhohlaa
