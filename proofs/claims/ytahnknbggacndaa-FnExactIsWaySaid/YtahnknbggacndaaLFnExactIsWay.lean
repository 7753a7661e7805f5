/- The walk of FnExactIsWay: it asks the model and the program about copies of a way and holds the answers against each other. -/
import Derived.Test.YtahnknbggacndaaWyLaw
namespace Go.Proofs.Ytahnknbggacndaa
open Go.RowKit
set_option linter.unusedVariables false
set_option maxRecDepth 100000 in
set_option maxHeartbeats 1000000 in
theorem wFnExactIsWay_main (x y : Int) (s : ByteArray) (hs : s.size ≤ maxLen) (v : Bool)
    (hS : Hid (∀ w, Calls Try.prog 24 #[wayV x y s] w (Ret w (.bool v)))) (hI : Hid (∀ w, Calls Try.prog 26 #[wayV x y s] w (Ret w (.bool v)))) (w : World) :
    Calls Try.prog 4 #[wayV x y s] w fun e w' => e = .returned (.bool true) ∧ Below w.heap.size w w' := by
  have HQ := Lib.hid (WB.new w x y s 29)
  have B0 : Below w.heap.size w (w.alloc (.cells #[.int .i64 x, .int .i64 y, .string s] 29)) := (Below.refl _ _).alloc (Nat.le_refl _) _
  have z0 : w.heap.size ≤ (w.alloc (.cells #[.int .i64 x, .int .i64 y, .string s] 29)).heap.size := B0.size
  have HZ := Lib.hid fun W => szWay_any x y s 1048576 W hs ⟨by omega, by omega⟩
  have c0 := HQ.out.c0
  have c1 := HQ.out.c1
  have c2 := HQ.out.c2
  by_cases hbig : szW s 1048576 < 0
  · generalize szW s 1048576 = left at *
    go_enter Try.func4, Try.ntmps4
    go_wp2_with fail
    refine (HZ.out _).mono ?_
    rintro e w1 ⟨rfl, hb1⟩
    have B1 := B0.trans (hb1.mono z0)
    go_wp2_with fail
    go_ret
    exact ⟨rfl, B1⟩
  generalize szW s 1048576 = left at *
  go_enter Try.func4, Try.ntmps4
  go_wp2_with fail
  refine (HZ.out _).mono ?_
  rintro e w0 ⟨rfl, hb0⟩
  have Q0 := Lib.hid (HQ.out.below hb0)
  have B00 := B0.trans (hb0.mono z0)
  clear hb0 c0 c1 c2
  have c0 := Q0.out.c0
  have c1 := Q0.out.c1
  have c2 := Q0.out.c2
  go_wp2_with fail
  refine (toWay_any x y s _).mono ?_
  rintro e w1 ⟨rfl, hb1⟩
  have Q1 := Lib.hid (Q0.out.below hb1)
  have B1 := B00.trans (hb1.mono B00.size)
  clear hb1
  go_wp2_with fail
  refine (hS.out _).mono ?_
  rintro e w2 ⟨rfl, hb2⟩
  have Q2 := Lib.hid (Q1.out.below hb2)
  have B2 := B1.trans (hb2.mono B1.size)
  clear c0 c1 c2
  have c0 := Q2.out.c0
  have c1 := Q2.out.c1
  have c2 := Q2.out.c2
  have lt2 := Q2.out.lt
  clear hb2
  have Q3 := Q2
  have B3 := B2
  go_wp2_with fail
  refine (toWay_any x y s _).mono ?_
  rintro e w3 ⟨rfl, hb3⟩
  have B4 := B3.trans (hb3.mono B3.size)
  clear hb3 c0 c1 c2
  go_wp2_with fail
  refine (hI.out _).mono ?_
  rintro e w4 ⟨rfl, hb4⟩
  have B5 := B4.trans (hb4.mono B4.size)
  clear hb4
  go_wp2_with fail
  go_ret
  exact ⟨rfl, B5⟩
end Go.Proofs.Ytahnknbggacndaa
