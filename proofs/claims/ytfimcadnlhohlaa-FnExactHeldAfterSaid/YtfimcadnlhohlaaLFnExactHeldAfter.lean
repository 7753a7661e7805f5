/- The walk of FnExactHeldAfter: it asks the model and the program about copies of a ratio, holds the answers against each other, marks the result, asks again. -/
import Derived.Test.YtfimcadnlhohlaaQOwn
namespace Go.Proofs.Ytfimcadnlhohlaa
open Go.RowKit
set_option linter.unusedVariables false
set_option maxRecDepth 100000 in
set_option maxHeartbeats 2000000 in
theorem wFnExactHeldAfter_main (a0 a1 n d a3 : Int) (ok : Bool) (c : Nat) (xs : List Int) (hl : c ≤ 1048576)
    (hS : Hid (∀ w, Calls Try.prog 38 #[.int .i64 a0, .int .i64 a1, .agg #[.int .i64 n, .int .i64 d], .int .i64 a3] w (QsRet w ok c xs))) (hI : Hid (∀ w, Calls Try.prog 39 #[.int .i64 a0, .int .i64 a1, .agg #[.int .i64 n, .int .i64 d], .int .i64 a3] w (QsRet w ok c xs))) (w : World) :
    Calls Try.prog 12 #[.int .i64 a0, .int .i64 a1, .agg #[.int .i64 n, .int .i64 d], .int .i64 a3] w fun e w' => e = .returned (.bool true) ∧ Below w.heap.size w w' := by
  have HQ := Lib.hid (QB.new w n d 23)
  have B0 : Below w.heap.size w (w.alloc (.cells #[.int .i64 n, .int .i64 d] 23)) := (Below.refl _ _).alloc (Nat.le_refl _) _
  have z0 : w.heap.size ≤ (w.alloc (.cells #[.int .i64 n, .int .i64 d] 23)).heap.size := B0.size
  go_enter Try.func12, Try.ntmps12
  go_wp2_with fail
  refine (toRatio_any n d _).mono ?_
  rintro e w1 ⟨rfl, hb1⟩
  have Q1 := Lib.hid (HQ.out.below hb1)
  have B1 := B0.trans (hb1.mono z0)
  clear hb1
  go_wp2_with fail
  refine (hS.out _).mono ?_
  rintro e w2 ⟨v0, rfl, hr0, hb2⟩
  have Q2 := Lib.hid (Q1.out.below hb2)
  have B2 := B1.trans (hb2.mono B1.size)
  have c0 := Q2.out.c0
  have c1 := Q2.out.c1
  obtain ⟨A0, p0, rfl⟩ := hr0.shape
  clear hb2
  go_wp2_with fail
  refine (toRatio_any n d _).mono ?_
  rintro e w3 ⟨rfl, hb3⟩
  have Q3 := Lib.hid (Q2.out.below hb3)
  have B3 := B2.trans (hb3.mono B2.size)
  have hr0a := hr0.below hb3
  have k0 := hr0a.blk
  clear hb3 c0 c1 hr0
  go_wp2_with fail
  refine (hI.out _).mono ?_
  rintro e w4 ⟨v1, rfl, hr1, hb4⟩
  have Q4 := Lib.hid (Q3.out.below hb4)
  have B4 := B3.trans (hb4.mono B3.size)
  have k1 := hr1.blk
  have hr0b := hr0a.below hb4
  have HK := Lib.hid (And.intro k0 k1)
  have s4 := hb4.size
  obtain ⟨A1, p1, rfl⟩ := hr1.shape
  clear hb4 hr0a k0 k1
  go_wp2_with fail
  refine (eqRats_same _ _ c xs _ _ _ hr1 hr0b hl).mono ?_
  rintro e w5 ⟨rfl, hb5⟩
  have Q5 := Lib.hid (Q4.out.below hb5)
  have B5 := B4.trans (hb5.mono B4.size)
  have hr0c := hr0b.below hb5
  have hr1c := hr1.below hb5
  have s5 := hb5.size
  clear hb5 hr0b hr1
  go_wp2_with fail
  refine (markRats_any _ c xs _ 1 _ hr1c hl (by omega)).mono ?_
  rintro e w6 ⟨rfl, hr1d, hg6⟩
  have hr0d := hr0c.grown_other hg6 (fun k hk => (HK.out.1 k hk).2) (fun k hk => (HK.out.2 k hk).1)
  have B6 : Below w.heap.size w w6 := B5.grown hg6 B5.size (fun k hk => Nat.le_trans B3.size (HK.out.2 k hk).1)
  have Q6 : Hid (QB w.heap.size n d w6) := Lib.hid (by
    have hb : ∀ o, w6.cell? ⟨w.heap.size, o, none⟩ = w5.cell? ⟨w.heap.size, o, none⟩ := fun o => by
      have he := hg6.block w.heap.size Q5.out.lt (fun e => by
        have h1 := (HK.out.2 w.heap.size e.symm).1
        have h2 := Q3.out.lt
        omega)
      unfold World.cell?
      rw [he]
    exact ⟨(hb 0).trans Q5.out.c0, (hb 1).trans Q5.out.c1, Nat.lt_of_lt_of_le Q5.out.lt hg6.size⟩)
  have d0 := Q6.out.c0
  have d1 := Q6.out.c1
  have q1 : ¬ (1 + (c : Int) * 2) < 0 := by omega
  have s6 := hg6.size
  clear hr0c hr1c hg6
  go_wp2_with fail
  refine (heldRats_any _ c _ 1 _ hr1d hl (by omega)).mono ?_
  rintro e w7 ⟨rfl, rfl⟩
  go_wp2_with fail
  refine (toRatio_any n d _).mono ?_
  rintro e w8 ⟨rfl, hb8⟩
  have B8 := B6.trans (hb8.mono B6.size)
  have hr0e := hr0d.below hb8
  have hr1e := hr1d.below hb8
  clear hb8 d0 d1 hr0d hr1d
  go_wp2_with fail
  refine (hI.out _).mono ?_
  rintro e w9 ⟨v2, rfl, hr2, hb9⟩
  have B9 := B8.trans (hb9.mono B8.size)
  have hr0f := hr0e.below hb9
  have hr1f := hr1e.below hb9
  obtain ⟨A2, p2, rfl⟩ := hr2.shape
  clear hb9 hr0e hr1e
  go_wp2_with fail
  refine (eqRats_same _ _ c xs _ _ _ hr2 hr0f hl).mono ?_
  rintro e w10 ⟨rfl, hb10⟩
  have B10 := B9.trans (hb10.mono B9.size)
  have hr1g := hr1f.below hb10
  clear hb10 hr0f hr1f hr2
  go_wp2_with fail
  refine (heldRats_any _ c _ 1 _ hr1g hl (by omega)).mono ?_
  rintro e w11 ⟨rfl, rfl⟩
  go_wp2_with fail
  go_ret
  exact ⟨rfl, B10⟩
end Go.Proofs.Ytfimcadnlhohlaa
