/- IsResult: both sides. -/
import Derived.Test.YtnlcainfkchieaaResMath
import Derived.Test.YtnlcainfkchieaaVoS
import Derived.Test.YtnlcainfkchieaaDeg
import Derived.Test.YtnlcainfkchieaaKindI
import Derived.Test.YtnlcainfkchieaaLowI
namespace Go.Proofs.Ytnlcainfkchieaa
open Go.RowKit
set_option linter.unusedVariables false
theorem resB_four (x0 x1 x2 x3 : Int) : resB [x0, x1, x2, x3] = (allB [x0, x1, x2, x3] 0 16 && (f4 x0 x1 x2 x3 && decide (x0 + x1 + x2 + x3 ≤ 16))) := by
  have e : flTo [x0, x1, x2, x3] 4 = f4 x0 x1 x2 x3 := by
    show (((true && decide (x1 ≤ x0)) && decide (x2 ≤ x1)) && decide (x3 ≤ x2)) = _
    rw [Bool.true_and]; rfl
  have e2 : ([x0, x1, x2, x3] : List Int).sum = x0 + x1 + x2 + x3 := by simp; omega
  unfold resB
  rw [e, e2]
  rfl
theorem resB_len {xs : List Int} (h : ¬ xs.length = 4) : resB xs = false := by unfold resB; rw [decide_eq_false h]; rfl
theorem four_of {xs : List Int} (h : xs.length = 4) : ∃ a b c d, xs = [a, b, c, d] := by
  match xs, h with
  | [a, b, c, d], _ => exact ⟨a, b, c, d, rfl⟩
theorem allB_four {a b c d : Int} (h : allB [a, b, c, d] 0 16 = true) : (0 ≤ a ∧ a ≤ 16) ∧ (0 ≤ b ∧ b ≤ 16) ∧ (0 ≤ c ∧ c ≤ 16) ∧ (0 ≤ d ∧ d ≤ 16) := by
  simpa [allB, inBd] using h
set_option maxRecDepth 100000 in
set_option maxHeartbeats 1600000 in
theorem voResult_any (v : Value) (xs : List Int) (w : World) (h : RInts w v xs) (hl : xs.length ≤ 1048576) : Calls Try.prog 42 #[v] w (Ret w (.bool (resB xs))) := by
  by_cases h4 : xs.length = 4
  · obtain ⟨a, b, c, d, rfl⟩ := four_of h4
    rw [resB_four]
    have HA : Hid (∀ w, RInts w v [a, b, c, d] → Calls Try.prog 60 #[v, .int .i64 0, .int .i64 16] w fun e w' => e = .returned (.bool (allB [a, b, c, d] 0 16)) ∧ w = w') := Lib.hid fun w h => l1All_any v _ 0 16 w h hl
    have HF : Hid (∀ w, RInts w v [a, b, c, d] → Calls Try.prog 62 #[v] w fun e w' => e = .returned (.bool (f4 a b c d)) ∧ Below w.heap.size w w') := Lib.hid fun w h => voFalls_any v a b c d w h
    obtain ⟨g, o, cc, rfl, hg, hcells⟩ := h.cells (by simp)
    have H := Lib.hid h
    have HC := Lib.hid hcells
    have HBD := Lib.hid (allB_four (a := a) (b := b) (c := c) (d := d))
    clear hcells h h4
    rw [show ([a, b, c, d] : List Int).length = 4 from rfl] at *
    generalize allB [a, b, c, d] 0 16 = ba at *
    generalize f4 a b c d = bf at *
    cases ba with
    | false =>
      rw [Bool.false_and]
      go_enter Try.func42, Try.ntmps42
      go_wp2_with (go_at_call 60; refine (HA.out _ H.out).mono ?_; rintro e w' ⟨rfl, rfl⟩)
      go_ret
      exact ⟨rfl, Below.refl _ _⟩
    | true =>
      rw [Bool.true_and]
      cases bf with
      | false =>
        rw [Bool.false_and]
        go_enter Try.func42, Try.ntmps42
        go_wp2_with (first | (go_at_call 60; refine (HA.out _ H.out).mono ?_; rintro e w' ⟨rfl, rfl⟩) | (go_at_call 62; refine (HF.out _ H.out).mono ?_; rintro e w1 ⟨rfl, hb1⟩))
        go_ret
        exact ⟨rfl, hb1⟩
      | true =>
        rw [Bool.true_and]
        obtain ⟨⟨a0, a1⟩, ⟨b0, b1⟩, ⟨d0, d1⟩, e0, e1⟩ := HBD.out rfl
        go_enter Try.func42, Try.ntmps42
        go_wp2_with (first | (go_at_call 60; refine (HA.out _ H.out).mono ?_; rintro e w' ⟨rfl, rfl⟩) | (go_at_call 62; refine (HF.out _ H.out).mono ?_; rintro e w1 ⟨rfl, hb1⟩))
        have c0 := (hb1.cell (p := ⟨g, o + 0, none⟩) hg).trans (HC.out 0 (by simp))
        have c1 := (hb1.cell (p := ⟨g, o + 1, none⟩) hg).trans (HC.out 1 (by simp))
        have c2 := (hb1.cell (p := ⟨g, o + 2, none⟩) hg).trans (HC.out 2 (by simp))
        have c3 := (hb1.cell (p := ⟨g, o + 3, none⟩) hg).trans (HC.out 3 (by simp))
        simp at c0 c1 c2 c3
        refine wp_loop_rounds 5 ?_
        iterate 5 (rw [rounds_succ]; go_wp2)
        go_ret
        exact ⟨rfl, hb1⟩
  · rw [resB_len h4]
    obtain ⟨A0, cap, rfl⟩ := h.shape
    have hne : ((xs.length : Int) != 4) = true := by simp; omega
    go_enter Try.func42, Try.ntmps42
    go_wp2
    go_ret
    exact ⟨rfl, Below.refl _ _⟩
end Go.Proofs.Ytnlcainfkchieaa
