/- The walk of FnExactIsCell: it asks the model and the program about copies of a cell and holds the answers against each other. -/
import Derived.Test.YtahnknbggacndaaCqLaw
namespace Go.Proofs.Ytahnknbggacndaa
open Go.RowKit
set_option linter.unusedVariables false
set_option maxRecDepth 100000 in
set_option maxHeartbeats 1000000 in
theorem wFnExactIsCell_main (n d : Int) (x : Bool)
    (hS : Hid (∀ w, Calls Try.prog 20 #[.agg #[.int .i64 n, .int .i64 d]] w (Ret w (.bool x)))) (hI : Hid (∀ w, Calls Try.prog 22 #[.agg #[.int .i64 n, .int .i64 d]] w (Ret w (.bool x)))) (w : World) :
    Calls Try.prog 3 #[.agg #[.int .i64 n, .int .i64 d]] w fun e w' => e = .returned (.bool true) ∧ Below w.heap.size w w' := by
  have HQ := Lib.hid (QB.new w n d 23)
  have B0 : Below w.heap.size w (w.alloc (.cells #[.int .i64 n, .int .i64 d] 23)) := (Below.refl _ _).alloc (Nat.le_refl _) _
  have z0 : w.heap.size ≤ (w.alloc (.cells #[.int .i64 n, .int .i64 d] 23)).heap.size := B0.size
  go_enter Try.func3, Try.ntmps3
  go_wp2_with fail
  refine (toCell_any n d _).mono ?_
  rintro e w1 ⟨rfl, hb1⟩
  have Q1 := Lib.hid (HQ.out.below hb1)
  have B1 := B0.trans (hb1.mono z0)
  clear hb1
  go_wp2_with fail
  refine (hS.out _).mono ?_
  rintro e w2 ⟨rfl, hb2⟩
  have Q2 := Lib.hid (Q1.out.below hb2)
  have B2 := B1.trans (hb2.mono B1.size)
  have c0 := Q2.out.c0
  have c1 := Q2.out.c1
  have lt2 := Q2.out.lt
  clear hb2
  have Q3 := Q2
  have B3 := B2
  go_wp2_with fail
  refine (toCell_any n d _).mono ?_
  rintro e w3 ⟨rfl, hb3⟩
  have B4 := B3.trans (hb3.mono B3.size)
  clear hb3 c0 c1
  go_wp2_with fail
  refine (hI.out _).mono ?_
  rintro e w4 ⟨rfl, hb4⟩
  have B5 := B4.trans (hb4.mono B4.size)
  clear hb4
  go_wp2_with fail
  go_ret
  exact ⟨rfl, B5⟩
end Go.Proofs.Ytahnknbggacndaa
