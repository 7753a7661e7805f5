/- The walk of FnExactCellsOfWay: it asks the model and the program about copies of a way, holds the answers against each other, marks the result, asks again. -/
import Derived.Test.YtahnknbggacndaaCOwn
import Derived.Test.YtahnknbggacndaaWyLaw
namespace Go.Proofs.Ytahnknbggacndaa
open Go.RowKit
set_option linter.unusedVariables false
set_option maxRecDepth 100000 in
set_option maxHeartbeats 2000000 in
theorem wFnExactCellsOfWay_main (x y : Int) (s : ByteArray) (hs : s.size ≤ maxLen) (ok : Bool) (c : Nat) (xs : List Int) (hl : c ≤ 1048576)
    (hS : Hid (∀ w, Calls Try.prog 27 #[wayV x y s] w (CsRet w ok c xs))) (hI : Hid (∀ w, Calls Try.prog 28 #[wayV x y s] w (CsRet w ok c xs))) (w : World) :
    Calls Try.prog 5 #[wayV x y s] w fun e w' => e = .returned (.bool true) ∧ Below w.heap.size w w' := by
  have HQ := Lib.hid (WB.new w x y s 29)
  have B0 : Below w.heap.size w (w.alloc (.cells #[.int .i64 x, .int .i64 y, .string s] 29)) := (Below.refl _ _).alloc (Nat.le_refl _) _
  have z0 : w.heap.size ≤ (w.alloc (.cells #[.int .i64 x, .int .i64 y, .string s] 29)).heap.size := B0.size
  have HZ := Lib.hid fun W => szWay_any x y s 1048576 W hs ⟨by omega, by omega⟩
  have c0 := HQ.out.c0
  have c1 := HQ.out.c1
  have c2 := HQ.out.c2
  by_cases hbig : szW s 1048576 < 0
  · generalize szW s 1048576 = left at *
    go_enter Try.func5, Try.ntmps5
    go_wp2_with fail
    refine (HZ.out _).mono ?_
    rintro e w1 ⟨rfl, hb1⟩
    have B1 := B0.trans (hb1.mono z0)
    go_wp2_with fail
    go_ret
    exact ⟨rfl, B1⟩
  generalize szW s 1048576 = left at *
  go_enter Try.func5, Try.ntmps5
  go_wp2_with fail
  refine (HZ.out _).mono ?_
  rintro e w0 ⟨rfl, hb0⟩
  have Q0 := Lib.hid (HQ.out.below hb0)
  have B00 := B0.trans (hb0.mono z0)
  clear hb0 c0 c1 c2
  have c0 := Q0.out.c0
  have c1 := Q0.out.c1
  have c2 := Q0.out.c2
  go_wp2_with fail
  refine (toWay_any x y s _).mono ?_
  rintro e w1 ⟨rfl, hb1⟩
  have Q1 := Lib.hid (Q0.out.below hb1)
  have B1 := B00.trans (hb1.mono B00.size)
  clear hb1 c0 c1 c2
  go_wp2_with fail
  refine (hS.out _).mono ?_
  rintro e w2 ⟨v0, rfl, hr0, hb2⟩
  have Q2 := Lib.hid (Q1.out.below hb2)
  have B2 := B1.trans (hb2.mono B1.size)
  have c0 := Q2.out.c0
  have c1 := Q2.out.c1
  have c2 := Q2.out.c2
  obtain ⟨A0, p0, rfl⟩ := hr0.shape
  clear hb2
  go_wp2_with fail
  refine (toWay_any x y s _).mono ?_
  rintro e w3 ⟨rfl, hb3⟩
  have Q3 := Lib.hid (Q2.out.below hb3)
  have B3 := B2.trans (hb3.mono B2.size)
  have hr0a := hr0.below hb3
  have k0 := hr0a.blk
  clear hb3 c0 c1 c2 hr0
  go_wp2_with fail
  refine (hI.out _).mono ?_
  rintro e w4 ⟨v1, rfl, hr1, hb4⟩
  have Q4 := Lib.hid (Q3.out.below hb4)
  have B4 := B3.trans (hb4.mono B3.size)
  have k1 := hr1.blk
  have hr0b := hr0a.below hb4
  have HK := Lib.hid (And.intro k0 k1)
  have s4 := hb4.size
  obtain ⟨A1, p1, rfl⟩ := hr1.shape
  clear hb4 hr0a k0 k1
  go_wp2_with fail
  refine (eqCels_same _ _ c xs _ _ _ hr1 hr0b hl).mono ?_
  rintro e w5 ⟨rfl, hb5⟩
  have Q5 := Lib.hid (Q4.out.below hb5)
  have B5 := B4.trans (hb5.mono B4.size)
  have hr0c := hr0b.below hb5
  have hr1c := hr1.below hb5
  have s5 := hb5.size
  clear hb5 hr0b hr1
  go_wp2_with fail
  refine (markCels_any _ c xs _ 1 _ hr1c hl (by omega)).mono ?_
  rintro e w6 ⟨rfl, hr1d, hg6⟩
  have hr0d := hr0c.grown_other hg6 (fun k hk => (HK.out.1 k hk).2) (fun k hk => (HK.out.2 k hk).1)
  have B6 : Below w.heap.size w w6 := B5.grown hg6 B5.size (fun k hk => Nat.le_trans B3.size (HK.out.2 k hk).1)
  have Q6 : Hid (WB w.heap.size x y s w6) := Lib.hid (by
    have hb : ∀ o, w6.cell? ⟨w.heap.size, o, none⟩ = w5.cell? ⟨w.heap.size, o, none⟩ := fun o => by
      have he := hg6.block w.heap.size Q5.out.lt (fun e => by
        have h1 := (HK.out.2 w.heap.size e.symm).1
        have h2 := Q3.out.lt
        omega)
      unfold World.cell?
      rw [he]
    exact ⟨(hb 0).trans Q5.out.c0, (hb 1).trans Q5.out.c1, (hb 2).trans Q5.out.c2, Nat.lt_of_lt_of_le Q5.out.lt hg6.size⟩)
  have d0 := Q6.out.c0
  have d1 := Q6.out.c1
  have d2 := Q6.out.c2
  have q1 : ¬ (1 + (c : Int) * 2) < 0 := by omega
  have s6 := hg6.size
  clear hr0c hr1c hg6
  go_wp2_with fail
  refine (heldCels_any _ c _ 1 _ hr1d hl (by omega)).mono ?_
  rintro e w7 ⟨rfl, rfl⟩
  go_wp2_with fail
  refine (toWay_any x y s _).mono ?_
  rintro e w8 ⟨rfl, hb8⟩
  have B8 := B6.trans (hb8.mono B6.size)
  have hr0e := hr0d.below hb8
  have hr1e := hr1d.below hb8
  clear hb8 d0 d1 d2 hr0d hr1d
  go_wp2_with fail
  refine (hI.out _).mono ?_
  rintro e w9 ⟨v2, rfl, hr2, hb9⟩
  have B9 := B8.trans (hb9.mono B8.size)
  have hr0f := hr0e.below hb9
  have hr1f := hr1e.below hb9
  obtain ⟨A2, p2, rfl⟩ := hr2.shape
  clear hb9 hr0e hr1e
  go_wp2_with fail
  refine (eqCels_same _ _ c xs _ _ _ hr2 hr0f hl).mono ?_
  rintro e w10 ⟨rfl, hb10⟩
  have B10 := B9.trans (hb10.mono B9.size)
  have hr1g := hr1f.below hb10
  clear hb10 hr0f hr1f hr2
  go_wp2_with fail
  refine (heldCels_any _ c _ 1 _ hr1g hl (by omega)).mono ?_
  rintro e w11 ⟨rfl, rfl⟩
  go_wp2_with fail
  go_ret
  exact ⟨rfl, B10⟩
end Go.Proofs.Ytahnknbggacndaa
