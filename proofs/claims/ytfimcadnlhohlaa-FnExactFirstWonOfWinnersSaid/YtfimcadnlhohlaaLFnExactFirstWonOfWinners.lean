/- The walk of FnExactFirstWonOfWinners: it asks the model and the program about copies of a ratio and holds the answers against each other. -/
import Derived.Test.YtfimcadnlhohlaaRqLaw
namespace Go.Proofs.Ytfimcadnlhohlaa
open Go.RowKit
set_option linter.unusedVariables false
set_option maxRecDepth 100000 in
set_option maxHeartbeats 1000000 in
theorem wFnExactFirstWonOfWinners_main (a0 : Int) (a1 : Int) (n d : Int) (ok : Bool) (x y : Int)
    (hS : Hid (∀ w, Calls Try.prog 43 #[.int .i64 a0, .int .i64 a1, .agg #[.int .i64 n, .int .i64 d]] w (Ret w (.tuple #[.agg #[.int .i64 x, .int .i64 y], .bool ok])))) (hI : Hid (∀ w, Calls Try.prog 44 #[.int .i64 a0, .int .i64 a1, .agg #[.int .i64 n, .int .i64 d]] w (Ret w (.tuple #[.agg #[.int .i64 x, .int .i64 y], .bool ok])))) (w : World) :
    Calls Try.prog 13 #[.int .i64 a0, .int .i64 a1, .agg #[.int .i64 n, .int .i64 d]] w fun e w' => e = .returned (.bool true) ∧ Below w.heap.size w w' := by
  have HQ := Lib.hid (QB.new w n d 23)
  have B0 : Below w.heap.size w (w.alloc (.cells #[.int .i64 n, .int .i64 d] 23)) := (Below.refl _ _).alloc (Nat.le_refl _) _
  have z0 : w.heap.size ≤ (w.alloc (.cells #[.int .i64 n, .int .i64 d] 23)).heap.size := B0.size
  go_enter Try.func13, Try.ntmps13
  go_wp2_with fail
  refine (toRatio_any n d _).mono ?_
  rintro e w1 ⟨rfl, hb1⟩
  have Q1 := Lib.hid (HQ.out.below hb1)
  have B1 := B0.trans (hb1.mono z0)
  clear hb1
  go_wp2_with fail
  refine (hS.out _).mono ?_
  rintro e w2 ⟨rfl, hb2⟩
  have Q2 := Lib.hid (Q1.out.below hb2)
  have B2 := B1.trans (hb2.mono B1.size)
  have c0 := Q2.out.c0
  have c1 := Q2.out.c1
  have lt2 := Q2.out.lt
  clear hb2
  have P2 := Lib.hid (QB.new w2 x y 25)
  have Q3 := Lib.hid (Q2.out.below ((Below.refl _ _).alloc (Nat.le_refl _) (.cells #[.int .i64 x, .int .i64 y] 25)))
  have B3 : Below w.heap.size w (w2.alloc (.cells #[.int .i64 x, .int .i64 y] 25)) := B2.alloc B2.size _
  go_wp2_with fail
  refine (toRatio_any n d _).mono ?_
  rintro e w3 ⟨rfl, hb3⟩
  have B4 := B3.trans (hb3.mono B3.size)
  have P3 := Lib.hid (P2.out.below hb3)
  clear hb3 c0 c1
  go_wp2_with fail
  refine (hI.out _).mono ?_
  rintro e w4 ⟨rfl, hb4⟩
  have B5 := B4.trans (hb4.mono B4.size)
  have P4 := Lib.hid (P3.out.below hb4)
  have p0 := P4.out.c0
  have p1 := P4.out.c1
  have lt4 := P4.out.lt
  have B6 : Below w.heap.size w (w4.alloc (.cells #[.int .i64 x, .int .i64 y] 25)) := B5.alloc B5.size _
  clear hb4
  go_wp2_with fail
  refine (eqRatio_any x y _).mono ?_
  rintro e w5 ⟨rfl, hb5⟩
  have B7 := B6.trans (hb5.mono B6.size)
  clear hb5 p0 p1
  go_wp2_with fail
  go_ret
  exact ⟨rfl, B7⟩
end Go.Proofs.Ytfimcadnlhohlaa
