/- countOfForests, the program's RankOfTree. -/
import Derived.Test.YtnlmjeakdjmohaaTreeRank
import Derived.Test.YtnlmjeakdjmohaaCounts
import Derived.Test.YtnlmjeakdjmohaaDegI
namespace Go.Proofs.Ytnlmjeakdjmohaa
open Go.RowKit
set_option linter.unusedVariables false
theorem numN_alt (n t : Nat) (hn : 0 < n) (ht : t ≤ n) : numN n t = chs ((n - t) + (n - 1)) (n - 1) * t / n := by
  unfold numN
  by_cases h0 : t = 0
  · subst h0
    rw [if_pos (.inr rfl), if_neg (by omega), Nat.mul_zero, Nat.zero_div]
  · rw [if_neg (by omega), if_neg (by omega)]
    have h1 := chs_absorb ((n - t) + (n - 1)) (n - 1)
    rw [show n - 1 + 1 = n by omega, show n - t + (n - 1) + 1 = 2 * n - t by omega] at h1
    generalize chs (2 * n - t) n = C1 at *
    generalize chs ((n - t) + (n - 1)) (n - 1) = C0 at *
    have hM : 0 < 2 * n - t := by omega
    generalize 2 * n - t = M at *
    rw [← Nat.mul_div_mul_left (C1 * t) M hn, ← Nat.mul_div_mul_left (C0 * t) n hM, ← Nat.mul_assoc, h1, Nat.mul_assoc, Nat.mul_comm n M]
theorem numN_far (n t : Nat) (hn : 0 < n) (ht : n < t) : numN n t = 0 := by
  unfold numN
  rw [if_neg (by omega), if_pos ht]
set_option maxHeartbeats 800000 in
theorem countOf_any (n t : Nat) (w : World) (hn : n ≤ 16) (ht : t ≤ 1000) :
    Calls Try.prog 92 #[.int .i64 t, .int .i64 n] w fun e w' => e = .returned (.int .i64 (numN n t : Nat)) ∧ w = w' := by
  by_cases h0 : n = 0
  · subst h0
    by_cases h1 : t = 0
    · subst h1
      go_enter Try.func92, Try.ntmps92
      go_wp2
      go_ret
      exact ⟨rfl, rfl⟩
    · have e : numN 0 t = 0 := by unfold numN; rw [if_pos (.inl rfl), if_neg (by omega)]
      have q : ((t : Int) == 0) = false := beq_eq_false_iff_ne.2 (by omega)
      rw [e]
      go_enter Try.func92, Try.ntmps92
      go_wp2
      go_ret
      exact ⟨rfl, rfl⟩
  · have q0 : ((n : Int) == 0) = false := beq_eq_false_iff_ne.2 (by omega)
    by_cases h2 : n < t
    · rw [numN_far n t (by omega) h2]
      have HC : Hid (∀ w, Calls Try.prog 88 #[.int .i64 ((n : Int) - 1), .int .i64 ((n : Int) - (t : Int))] w fun e w' => e = .returned (.tuple #[.int .i64 0, .bool false]) ∧ w = w') := Lib.hid fun w => count_no _ _ w (by omega)
      have m3 : (0 : Int) < (n : Int) := by omega
      have HZ : Hid ((0 : Int).tdiv (n : Int) = 0) := Lib.hid (Int.zero_tdiv _)
      go_enter Try.func92, Try.ntmps92
      go_wp2_with (go_at_call 88; refine (HC.out _).mono ?_; rintro e w1 ⟨rfl, rfl⟩)
      go_ret
      exact ⟨by simp, rfl⟩
    · rw [numN_alt n t (by omega) (by omega)]
      have HC : Hid (∀ w, Calls Try.prog 88 #[.int .i64 ((n : Int) - 1), .int .i64 ((n : Int) - (t : Int))] w fun e w' => e = .returned (.tuple #[.int .i64 (chs ((n - t) + (n - 1)) (n - 1) : Nat), .bool true]) ∧ w = w') := Lib.hid fun w => by
        have := count_yes (n - 1) (n - t) w (by omega)
        rwa [show ((n - 1 : Nat) : Int) = (n : Int) - 1 by omega, show ((n - t : Nat) : Int) = (n : Int) - (t : Int) by omega] at this
      have hc := chs_small40 ((n - t) + (n - 1)) (n - 1) (by omega)
      have HD : Hid (((chs ((n - t) + (n - 1)) (n - 1) * t / n : Nat) : Int) = ((chs ((n - t) + (n - 1)) (n - 1) : Nat) : Int) * (t : Int) / (n : Int)) := by
        unfold Hid
        rw [Int.natCast_ediv, Int.natCast_mul]
      rw [HD.out]
      clear HD
      generalize chs ((n - t) + (n - 1)) (n - 1) = C at *
      have m0 : C * t ≤ 1099511627776 * 16 := Nat.mul_le_mul hc (by omega)
      have m1 : (C : Int) * (t : Int) ≤ 17592186044416 := by
        rw [← Int.natCast_mul]
        exact Int.ofNat_le.2 m0
      have m2 : (0 : Int) ≤ (C : Int) * (t : Int) := by
        rw [← Int.natCast_mul]
        exact Int.natCast_nonneg _
      have m3 : (0 : Int) < (n : Int) := by omega
      clear m0
      go_enter Try.func92, Try.ntmps92
      go_wp2_with (go_at_call 88; refine (HC.out _).mono ?_; rintro e w1 ⟨rfl, rfl⟩)
      go_ret
      exact ⟨rfl, rfl⟩
end Go.Proofs.Ytnlmjeakdjmohaa
