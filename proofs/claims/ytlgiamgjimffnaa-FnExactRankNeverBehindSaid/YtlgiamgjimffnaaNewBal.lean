/- newBallot. -/
import Derived.Test.YtlgiamgjimffnaaMapT
namespace Go.Proofs.Ytlgiamgjimffnaa
open Go.RowKit
set_option maxHeartbeats 400000 in
theorem newBallot_any (a b k l : Int) (w : World) (V : Int → Int → Int) : Calls Try.prog 83 #[.int .i64 a, .int .i64 b, .int .i64 k, .int .i64 l] w fun e w' => ∃ mb, e = .returned (.agg #[.int .i64 a, .int .i64 b, .int .i64 k, .int .i64 l, .map (some mb)]) ∧ w.heap.size ≤ mb ∧ MapOk w' mb V ∧ Below w.heap.size w w' := by
  have hmm := @run_makeMap Try.prog
  go_enter Try.func83, Try.ntmps83
  go_wp2
  refine bodyPost_ret (v := .agg #[.int .i64 a, .int .i64 b, .int .i64 k, .int .i64 l, .map (some (w.heap.size + 1))]) (by simp [results, Try.results83, go_sem]) rfl ⟨_, rfl, by omega, ?_, ?_⟩
  · have := MapOk.made (w.alloc (.cells #[.int .i64 a, .int .i64 b, .int .i64 k, .int .i64 l, .map (some (w.heap.size + 1))] 64)) V
    simpa using this
  · exact ((Below.refl _ _).alloc (Nat.le_refl _) _).alloc (by simp) _
end Go.Proofs.Ytlgiamgjimffnaa
