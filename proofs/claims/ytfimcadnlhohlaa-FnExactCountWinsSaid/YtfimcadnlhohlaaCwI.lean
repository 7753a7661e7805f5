/- The program's CountWins. -/
import Derived.Test.YtfimcadnlhohlaaPlayI
import Derived.Test.YtfimcadnlhohlaaCwBoth
import Derived.Test.YtfimcadnlhohlaaBtwI
namespace Go.Proofs.Ytfimcadnlhohlaa
open Go.RowKit
set_option linter.unusedVariables false
theorem gw_far {i g k : Nat} (hi : 1 ≤ i ∧ i < g) (h : (k : Int) - 1 < (g : Int) - 1 - i) : gw i g k g = 0 := by
  cases k with
  | zero => exact gw_start hi
  | succ k => rw [gw_goal hi]; exact cw_far _ _ _ _ _ (by omega)
theorem gw_odd {i g k : Nat} (hi : 1 ≤ i ∧ i < g) (h : ((k : Int) - 1 - ((g : Int) - 1 - i)) % 2 ≠ 0) : gw i g k g = 0 := by
  cases k with
  | zero => exact gw_start hi
  | succ k => rw [gw_goal hi]; exact cw_par _ _ _ (by omega)
theorem gw_apart {i g k : Nat} (hi : 1 ≤ i ∧ i < g) (hk : 1 ≤ k) : gw i g k g = caV ((k : Int) - 1) ((g : Int) - 1 - i) (-(i : Int)) ((g : Int) - i) := by
  obtain ⟨q, rfl⟩ : ∃ q, k = q + 1 := ⟨k - 1, by omega⟩
  rw [gw_goal hi]
  unfold caV
  rw [if_pos (by omega), show ((q + 1 : Nat) : Int) - 1 = (q : Int) by omega, show -(i : Int) + 1 = 1 - i by omega, show (g : Int) - i - 1 = (g : Int) - 1 - i by omega]
  exact (btZ_cw (n := q) (s := i) (e := (g : Int) - 1) (lo := 1) (hi := (g : Int) - 1) (by omega)).symm
set_option maxRecDepth 100000 in
set_option maxHeartbeats 2000000 in
theorem countWinsI_ret (i g k : Int) (w : World) : Calls Try.prog 50 #[.int .i64 i, .int .i64 g, .int .i64 k] w (Ret w (.tuple #[.int .i64 (cwV i g k), .bool (cwOk i g k)])) := by
  have H1 : Hid (∀ X : World, Calls Try.prog 71 #[.int .i64 g, .slice (some ⟨X.heap.size, 0, none⟩) 1 1] (X.alloc (.cells #[.int .i64 i] 3)) fun e w' => e = .returned (.bool (inBd 1 12 g && inBd 1 (g - 1) i)) ∧ Below X.heap.size X w') := Lib.hid (play_lit g i)
  have H2 : Hid (∀ X : World, Calls Try.prog 54 #[.int .i64 0, .int .i64 18, .slice (some ⟨X.heap.size, 0, none⟩) 1 1] (X.alloc (.cells #[.int .i64 k] 3)) fun e w' => e = .returned (.bool (inBd 0 18 k)) ∧ Below X.heap.size X w') := Lib.hid (within_lit 0 18 k)
  rcases Bool.eq_false_or_eq_true (inBd 1 12 g && inBd 1 (g - 1) i) with a1 | a1
  · rcases Bool.eq_false_or_eq_true (inBd 0 18 k) with a2 | a2
    · have hok : cwOk i g k = true := by unfold cwOk; rw [a1, a2]; rfl
      have hb : (1 ≤ g ∧ g ≤ 12) ∧ (1 ≤ i ∧ i ≤ g - 1) ∧ (0 ≤ k ∧ k ≤ 18) := by
        unfold inBd at a1 a2
        simp only [Bool.and_eq_true, decide_eq_true_eq] at a1 a2
        exact ⟨a1.1, a1.2, a2⟩
      obtain ⟨hg, hi, hk⟩ := hb
      have e1 : cwV i g k = gw i.toNat g.toNat k.toNat g.toNat := by unfold cwV; rw [if_pos hok]
      rw [e1, hok]
      rw [a1] at H1
      rw [a2] at H2
      clear e1 hok a1 a2
      obtain ⟨I, rfl⟩ := Int.eq_ofNat_of_zero_le (show 0 ≤ i by omega)
      obtain ⟨G, rfl⟩ := Int.eq_ofNat_of_zero_le (show 0 ≤ g by omega)
      obtain ⟨K, rfl⟩ := Int.eq_ofNat_of_zero_le hk.1
      simp only [Int.toNat_natCast]
      by_cases hfar : (K : Int) - 1 < (G : Int) - 1 - (I : Int)
      · rw [gw_far (by omega) hfar]
        go_enter Try.func50, Try.ntmps50
        go_wp2_with (first | (go_at_call 71; refine (H1.out _).mono ?_; rintro e w1 ⟨rfl, hb1⟩) | (go_at_call 54; refine (H2.out _).mono ?_; rintro e w2 ⟨rfl, hb2⟩))
        go_ret2
        exact ⟨rfl, hb1.trans (hb2.mono hb1.size)⟩
      · by_cases hodd : ((K : Int) - 1 - ((G : Int) - 1 - (I : Int))) % 2 ≠ 0
        · rw [gw_odd (by omega) hodd]
          have k1 : (((K : Int) - 1 - ((G : Int) - 1 - (I : Int))) % 2 != 0) = true := by rw [bne_iff_ne]; exact hodd
          have k2 : (((K : Int) - 1 - ((G : Int) - 1 - (I : Int))) % 2 == 0) = false := beq_eq_false_iff_ne.2 hodd
          go_enter Try.func50, Try.ntmps50
          go_wp2_with (first | (go_at_call 71; refine (H1.out _).mono ?_; rintro e w1 ⟨rfl, hb1⟩) | (go_at_call 54; refine (H2.out _).mono ?_; rintro e w2 ⟨rfl, hb2⟩))
          go_ret2
          exact ⟨rfl, hb1.trans (hb2.mono hb1.size)⟩
        · rw [gw_apart (by omega) (by omega)]
          have k0 : ((K : Int) - 1 - ((G : Int) - 1 - (I : Int))) % 2 = 0 := by omega
          have k1 : (((K : Int) - 1 - ((G : Int) - 1 - (I : Int))) % 2 != 0) = false := by rw [k0]; rfl
          have k2 : (((K : Int) - 1 - ((G : Int) - 1 - (I : Int))) % 2 == 0) = true := by rw [k0]; rfl
          have HCA : Hid (∀ w, Calls Try.prog 77 #[.int .i64 (((K : Int) - 1 + ((G : Int) - 1 - (I : Int))) / 2), .int .i64 (((K : Int) - 1 - ((G : Int) - 1 - (I : Int))) / 2), .agg #[.int .i64 (-(I : Int)), .int .i64 ((G : Int) - (I : Int))]] w (Ret w (.int .i64 (caV ((K : Int) - 1) ((G : Int) - 1 - (I : Int)) (-(I : Int)) ((G : Int) - (I : Int)))))) := Lib.hid fun w => by
            have := countApart_ret (((K : Int) - 1 + ((G : Int) - 1 - (I : Int))) / 2) (((K : Int) - 1 - ((G : Int) - 1 - (I : Int))) / 2) (-(I : Int)) ((G : Int) - (I : Int)) w (by omega) (by omega) (by omega)
            rwa [show ((K : Int) - 1 + ((G : Int) - 1 - (I : Int))) / 2 + ((K : Int) - 1 - ((G : Int) - 1 - (I : Int))) / 2 = (K : Int) - 1 by omega, show ((K : Int) - 1 + ((G : Int) - 1 - (I : Int))) / 2 - ((K : Int) - 1 - ((G : Int) - 1 - (I : Int))) / 2 = (G : Int) - 1 - (I : Int) by omega] at this
          generalize caV ((K : Int) - 1) ((G : Int) - 1 - (I : Int)) (-(I : Int)) ((G : Int) - (I : Int)) = z at *
          clear k0 hodd
          go_enter Try.func50, Try.ntmps50
          go_wp2_with (first | (go_at_call 71; refine (H1.out _).mono ?_; rintro e w1 ⟨rfl, hb1⟩) | (go_at_call 54; refine (H2.out _).mono ?_; rintro e w2 ⟨rfl, hb2⟩) | (go_at_call 77; refine (HCA.out _).mono ?_; rintro e w3 ⟨rfl, hb3⟩))
          go_ret2
          exact ⟨rfl, (hb1.trans (hb2.mono hb1.size)).trans (hb3.mono (hb1.trans (hb2.mono hb1.size)).size)⟩
    · have hok : cwOk i g k = false := by unfold cwOk; rw [a1, a2]; rfl
      have e1 : cwV i g k = 0 := by unfold cwV; rw [hok]; rfl
      rw [e1, hok]
      rw [a1] at H1
      rw [a2] at H2
      clear e1 hok a1 a2
      go_enter Try.func50, Try.ntmps50
      go_wp2_with (first | (go_at_call 71; refine (H1.out _).mono ?_; rintro e w1 ⟨rfl, hb1⟩) | (go_at_call 54; refine (H2.out _).mono ?_; rintro e w2 ⟨rfl, hb2⟩))
      go_ret2
      exact ⟨rfl, hb1.trans (hb2.mono hb1.size)⟩
  · have hok : cwOk i g k = false := by unfold cwOk; rw [a1]; rfl
    have e1 : cwV i g k = 0 := by unfold cwV; rw [hok]; rfl
    rw [e1, hok]
    rw [a1] at H1
    clear e1 hok a1
    go_enter Try.func50, Try.ntmps50
    go_wp2_with (go_at_call 71; refine (H1.out _).mono ?_; rintro e w1 ⟨rfl, hb1⟩)
    go_ret2
    exact ⟨rfl, hb1⟩
end Go.Proofs.Ytfimcadnlhohlaa
