/- Pack 19 of what FnExactOrderedOfRank needs: ResS, ResI. -/
import Derived.Test.YtmfcknlpbliehaaKFnExactOrderedOfRank18
/- IsResult: both sides. -/
namespace Go.Proofs.Ytmfcknlpbliehaa
open Go.RowKit
set_option linter.unusedVariables false
theorem resB_four (x0 x1 x2 x3 : Int) : resB [x0, x1, x2, x3] = (allB [x0, x1, x2, x3] 0 16 && (f4 x0 x1 x2 x3 && decide (x0 + x1 + x2 + x3 ≤ 16))) := by
  have e : flTo [x0, x1, x2, x3] 4 = f4 x0 x1 x2 x3 := by
    show (((true && decide (x1 ≤ x0)) && decide (x2 ≤ x1)) && decide (x3 ≤ x2)) = _
    rw [Bool.true_and]; rfl
  have e2 : ([x0, x1, x2, x3] : List Int).sum = x0 + x1 + x2 + x3 := by simp; omega
  unfold resB
  rw [e, e2]
  rfl
theorem resB_len {xs : List Int} (h : ¬ xs.length = 4) : resB xs = false := by unfold resB; rw [decide_eq_false h]; rfl
theorem four_of {xs : List Int} (h : xs.length = 4) : ∃ a b c d, xs = [a, b, c, d] := by
  match xs, h with
  | [a, b, c, d], _ => exact ⟨a, b, c, d, rfl⟩
theorem allB_four {a b c d : Int} (h : allB [a, b, c, d] 0 16 = true) : (0 ≤ a ∧ a ≤ 16) ∧ (0 ≤ b ∧ b ≤ 16) ∧ (0 ≤ c ∧ c ≤ 16) ∧ (0 ≤ d ∧ d ≤ 16) := by
  simpa [allB, inBd] using h
set_option maxRecDepth 100000 in
set_option maxHeartbeats 1600000 in
theorem voResult_any (v : Value) (xs : List Int) (w : World) (h : RInts w v xs) (hl : xs.length ≤ 1048576) : Calls Try.prog 8 #[v] w (Ret w (.bool (resB xs))) := by
  by_cases h4 : xs.length = 4
  · obtain ⟨a, b, c, d, rfl⟩ := four_of h4
    rw [resB_four]
    have HA : Hid (∀ w, RInts w v [a, b, c, d] → Calls Try.prog 17 #[v, .int .i64 0, .int .i64 16] w fun e w' => e = .returned (.bool (allB [a, b, c, d] 0 16)) ∧ w = w') := Lib.hid fun w h => l1All_any v _ 0 16 w h hl
    have HF : Hid (∀ w, RInts w v [a, b, c, d] → Calls Try.prog 18 #[v] w fun e w' => e = .returned (.bool (f4 a b c d)) ∧ Below w.heap.size w w') := Lib.hid fun w h => voFalls_any v a b c d w h
    obtain ⟨g, o, cc, rfl, hg, hcells⟩ := h.cells (by simp)
    have H := Lib.hid h
    have HC := Lib.hid hcells
    have HBD := Lib.hid (allB_four (a := a) (b := b) (c := c) (d := d))
    clear hcells h h4
    rw [show ([a, b, c, d] : List Int).length = 4 from rfl] at *
    generalize allB [a, b, c, d] 0 16 = ba at *
    generalize f4 a b c d = bf at *
    cases ba with
    | false =>
      rw [Bool.false_and]
      go_enter Try.func8, Try.ntmps8
      go_wp2_with (go_at_call 17; refine (HA.out _ H.out).mono ?_; rintro e w' ⟨rfl, rfl⟩)
      go_ret
      exact ⟨rfl, Below.refl _ _⟩
    | true =>
      rw [Bool.true_and]
      cases bf with
      | false =>
        rw [Bool.false_and]
        go_enter Try.func8, Try.ntmps8
        go_wp2_with (first | (go_at_call 17; refine (HA.out _ H.out).mono ?_; rintro e w' ⟨rfl, rfl⟩) | (go_at_call 18; refine (HF.out _ H.out).mono ?_; rintro e w1 ⟨rfl, hb1⟩))
        go_ret
        exact ⟨rfl, hb1⟩
      | true =>
        rw [Bool.true_and]
        obtain ⟨⟨a0, a1⟩, ⟨b0, b1⟩, ⟨d0, d1⟩, e0, e1⟩ := HBD.out rfl
        go_enter Try.func8, Try.ntmps8
        go_wp2_with (first | (go_at_call 17; refine (HA.out _ H.out).mono ?_; rintro e w' ⟨rfl, rfl⟩) | (go_at_call 18; refine (HF.out _ H.out).mono ?_; rintro e w1 ⟨rfl, hb1⟩))
        have c0 := (hb1.cell (p := ⟨g, o + 0, none⟩) hg).trans (HC.out 0 (by simp))
        have c1 := (hb1.cell (p := ⟨g, o + 1, none⟩) hg).trans (HC.out 1 (by simp))
        have c2 := (hb1.cell (p := ⟨g, o + 2, none⟩) hg).trans (HC.out 2 (by simp))
        have c3 := (hb1.cell (p := ⟨g, o + 3, none⟩) hg).trans (HC.out 3 (by simp))
        simp at c0 c1 c2 c3
        refine wp_loop_rounds 5 ?_
        iterate 5 (rw [rounds_succ]; go_wp2)
        go_ret
        exact ⟨rfl, hb1⟩
  · rw [resB_len h4]
    obtain ⟨A0, cap, rfl⟩ := h.shape
    have hne : ((xs.length : Int) != 4) = true := by simp; omega
    go_enter Try.func8, Try.ntmps8
    go_wp2
    go_ret
    exact ⟨rfl, Below.refl _ _⟩
end Go.Proofs.Ytmfcknlpbliehaa

/- IsResult: the program; the two public functions. -/
namespace Go.Proofs.Ytmfcknlpbliehaa
open Go.RowKit
set_option linter.unusedVariables false
set_option maxRecDepth 100000 in
set_option maxHeartbeats 3200000 in
theorem isResult_any (v : Value) (xs : List Int) (w : World) (h : RInts w v xs) (hl : xs.length ≤ 1048576) : Calls Try.prog 29 #[v] w (Ret w (.bool (resB xs))) := by
  by_cases h4 : xs.length = 4
  · obtain ⟨a, b, c, d, rfl⟩ := four_of h4
    rw [resB_four]
    have HA : Hid (∀ w, RInts w v [a, b, c, d] → Calls Try.prog 32 #[.int .i64 0, .int .i64 16, v] w fun e w' => e = .returned (.bool (allB [a, b, c, d] 0 16)) ∧ w = w') := Lib.hid fun w h => within_any v _ 0 16 w h hl
    have HBD := Lib.hid (allB_four (a := a) (b := b) (c := c) (d := d))
    have HS : Hid (∀ w, RInts w v [a, b, c, d] → allB [a, b, c, d] 0 16 = true → Calls Try.prog 33 #[v] w fun e w' => e = .returned (.int .i64 (a + b + c + d)) ∧ w = w') := Lib.hid fun w h hb => by
      obtain ⟨⟨a0, a1⟩, ⟨b0, b1⟩, ⟨d0, d1⟩, e0, e1⟩ := HBD.out hb
      have := sumInts_any v _ w h (by simp) (fun k hk => by
        have hk2 : k = 0 ∨ k = 1 ∨ k = 2 ∨ k = 3 ∨ k = 4 := by simp at hk; omega
        rcases hk2 with e | e | e | e | e <;> subst e <;> simp [sumK, sumTo] <;> omega)
      have e : sumK [a, b, c, d] ([a, b, c, d] : List Int).length = a + b + c + d := by
        show 0 + a + b + c + d = _
        omega
      rwa [e] at this
    obtain ⟨g, o, cc, rfl, hg, hcells⟩ := h.cells (by simp)
    have H := Lib.hid h
    have c0 := hcells 0 (by simp)
    have c1 := hcells 1 (by simp)
    have c2 := hcells 2 (by simp)
    have c3 := hcells 3 (by simp)
    simp at c0 c1 c2 c3
    clear hcells h h4
    rw [show ([a, b, c, d] : List Int).length = 4 from rfl] at *
    have HF : Hid (f4 a b c d = (decide (b ≤ a) && decide (c ≤ b) && decide (d ≤ c))) := Lib.hid rfl
    generalize f4 a b c d = bf at *
    generalize allB [a, b, c, d] 0 16 = ba at *
    cases ba with
    | false =>
      rw [Bool.false_and]
      go_enter Try.func29, Try.ntmps29
      go_wp2_with (go_at_call 32; refine (HA.out _ H.out).mono ?_; rintro e w' ⟨rfl, rfl⟩)
      go_ret
      exact ⟨rfl, Below.refl _ _⟩
    | true =>
      rw [Bool.true_and]
      have HS2 := Lib.hid (fun w h => HS.out w h rfl)
      clear HS
      by_cases h1 : a < b
      · have HB : Hid (bf = false) := Lib.hid (by rw [HF.out, decide_eq_false (by omega)]; rfl)
        rw [HB.out, Bool.false_and]
        clear HF
        go_enter Try.func29, Try.ntmps29
        go_wp2_with (go_at_call 32; refine (HA.out _ H.out).mono ?_; rintro e w' ⟨rfl, rfl⟩)
        refine wp_loop_rounds 1 ?_
        iterate 1 (rw [rounds_succ]; go_wp2; go_region; go_wp2)
        go_ret
        exact ⟨rfl, below_drewN (Below.refl _ _) 1⟩
      · by_cases h2 : b < c
        · have HB : Hid (bf = false) := Lib.hid (by rw [HF.out, decide_eq_false (show ¬ c ≤ b by omega), Bool.and_false]; rfl)
          rw [HB.out, Bool.false_and]
          clear HF
          go_enter Try.func29, Try.ntmps29
          go_wp2_with (go_at_call 32; refine (HA.out _ H.out).mono ?_; rintro e w' ⟨rfl, rfl⟩)
          refine wp_loop_rounds 2 ?_
          iterate 2 (rw [rounds_succ]; go_wp2; go_region; go_wp2)
          go_ret
          exact ⟨rfl, below_drewN (Below.refl _ _) 2⟩
        · by_cases h3 : c < d
          · have HB : Hid (bf = false) := Lib.hid (by rw [HF.out, decide_eq_false (show ¬ d ≤ c by omega), Bool.and_false])
            rw [HB.out, Bool.false_and]
            clear HF
            go_enter Try.func29, Try.ntmps29
            go_wp2_with (go_at_call 32; refine (HA.out _ H.out).mono ?_; rintro e w' ⟨rfl, rfl⟩)
            refine wp_loop_rounds 3 ?_
            iterate 3 (rw [rounds_succ]; go_wp2; go_region; go_wp2)
            go_ret
            exact ⟨rfl, below_drewN (Below.refl _ _) 3⟩
          · have HB : Hid (bf = true) := Lib.hid (by rw [HF.out, decide_eq_true (show b ≤ a by omega), decide_eq_true (show c ≤ b by omega), decide_eq_true (show d ≤ c by omega)]; rfl)
            rw [HB.out, Bool.true_and]
            clear HF
            go_enter Try.func29, Try.ntmps29
            go_wp2_with (go_at_call 32; refine (HA.out _ H.out).mono ?_; rintro e w' ⟨rfl, rfl⟩)
            refine wp_loop_rounds 4 ?_
            iterate 3 (rw [rounds_succ]; go_wp2; go_region; go_wp2)
            rw [rounds_succ]
            have HR := Lib.hid (H.out.below (below_drewN (Below.refl _ _) 3))
            go_wp2_with (go_at_call 33; refine (HS2.out _ HR.out).mono ?_; rintro e w' ⟨rfl, rfl⟩)
            go_ret
            exact ⟨rfl, below_drewN (Below.refl _ _) 3⟩
  · rw [resB_len h4]
    obtain ⟨A0, cap, rfl⟩ := h.shape
    have hne : ((xs.length : Int) != 4) = true := by simp; omega
    go_enter Try.func29, Try.ntmps29
    go_wp2
    go_ret
    exact ⟨rfl, Below.refl _ _⟩
end Go.Proofs.Ytmfcknlpbliehaa
