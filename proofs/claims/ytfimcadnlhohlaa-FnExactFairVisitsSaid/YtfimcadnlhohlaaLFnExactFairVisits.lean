/- The walk of FnExactFairVisits: it asks the model and the program and holds them against each other. -/
import Derived.Test.YtfimcadnlhohlaaChance
namespace Go.Proofs.Ytfimcadnlhohlaa
open Go.RowKit

set_option maxHeartbeats 1000000 in
theorem wFnExactFairVisits_main (a0 : Int) (a1 : Int) (a2 : Int) (ok : Bool) (x y : Int)
    (hS : Hid (∀ w, Calls Try.prog 45 #[.int .i64 a0, .int .i64 a1, .int .i64 a2] w (Ret w (.tuple #[.agg #[.int .i64 x, .int .i64 y], .bool ok])))) (hI : Hid (∀ w, Calls Try.prog 46 #[.int .i64 a0, .int .i64 a1, .int .i64 a2] w (Ret w (.tuple #[.agg #[.int .i64 x, .int .i64 y], .bool ok])))) (w : World)  :
    Calls Try.prog 14 #[.int .i64 a0, .int .i64 a1, .int .i64 a2] w fun e w' => e = .returned (.bool true) ∧ Below w.heap.size w w' := by
  go_enter Try.func14, Try.ntmps14
  go_wp2_with fail
  refine (hS.out _).mono ?_
  rintro e w1 ⟨rfl, hb0⟩
  go_wp2_with fail
  refine (hI.out _).mono ?_
  rintro e w2 ⟨rfl, hb1⟩
  obtain ⟨hc1, hf1⟩ := bcell hb1
  have hz1 := hb1.size
  have hz0 : w1.heap.size < w2.heap.size := by simp at hz1; omega
  go_wp2_with fail
  refine (eqRatio_any x y _).mono ?_
  rintro e w3 ⟨rfl, hb2⟩
  go_wp2_with fail
  go_ret
  have h12 := below_two hb1
  have h23 := below_two hb2
  exact ⟨rfl, hb0.trans ((h12.mono hb0.size).trans (h23.mono (Nat.le_trans hb0.size h12.size)))⟩

end Go.Proofs.Ytfimcadnlhohlaa
