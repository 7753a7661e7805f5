/- cyNumber. -/
import Derived.Test.YtgajknnfmnnfeaaChoose
namespace Go.Proofs.Ytgajknnfmnnfeaa
open Go.RowKit
set_option linter.unusedVariables false
/-- how many lists of n degrees make t trees -/
def numN (n t : Nat) : Nat := if n = 0 ∨ t = 0 then (if n = t then 1 else 0) else if n < t then 0 else chs (2 * n - t) n * t / (2 * n - t)
set_option maxHeartbeats 800000 in
theorem cyNumber_ret (n t : Nat) (w : World) (hn : n ≤ 16) (ht : t ≤ 1000) :
    Calls Try.prog 92 #[.int .i64 n, .int .i64 t] w (Ret w (.int .i64 (numN n t : Nat))) := by
  by_cases h0 : n = 0
  · subst h0
    by_cases h1 : t = 0
    · subst h1
      go_enter Try.func92, Try.ntmps92
      go_wp2
      go_ret
      exact ⟨rfl, Below.refl _ _⟩
    · have e : numN 0 t = 0 := by unfold numN; rw [if_pos (.inl rfl), if_neg (by omega)]
      have q : ((0 : Int) == (t : Int)) = false := beq_eq_false_iff_ne.2 (by omega)
      rw [e]
      go_enter Try.func92, Try.ntmps92
      go_wp2
      go_ret
      exact ⟨rfl, Below.refl _ _⟩
  · have q0 : ((n : Int) == 0) = false := beq_eq_false_iff_ne.2 (by omega)
    by_cases h1 : t = 0
    · subst h1
      have e : numN n 0 = 0 := by unfold numN; rw [if_pos (.inr rfl), if_neg (by omega)]
      rw [e]
      go_enter Try.func92, Try.ntmps92
      go_wp2
      go_ret
      exact ⟨rfl, Below.refl _ _⟩
    · have q1 : ((t : Int) == 0) = false := beq_eq_false_iff_ne.2 (by omega)
      by_cases h2 : n < t
      · have e : numN n t = 0 := by unfold numN; rw [if_neg (by omega), if_pos h2]
        rw [e]
        go_enter Try.func92, Try.ntmps92
        go_wp2
        go_ret
        exact ⟨rfl, Below.refl _ _⟩
      · have e : numN n t = chs (2 * n - t) n * t / (2 * n - t) := by unfold numN; rw [if_neg (by omega), if_neg h2]
        rw [e]
        have HC : Hid (∀ w, Calls Try.prog 106 #[.int .i64 (2 * (n : Int) - (t : Int)), .int .i64 (n : Int)] w (Ret w (.int .i64 (chs (2 * n - t) n : Nat)))) := Lib.hid fun w => by
          have := choose_yes (2 * n - t) n w (by omega) (by omega)
          rwa [show ((2 * n - t : Nat) : Int) = 2 * (n : Int) - (t : Int) by omega] at this
        have hc := chs_small40 (2 * n - t) n (by omega)
        have HD : Hid ((((chs (2 * n - t) n * t / (2 * n - t) : Nat)) : Int) = ((chs (2 * n - t) n : Nat) : Int) * (t : Int) / (2 * (n : Int) - (t : Int))) := by
          unfold Hid
          rw [Int.natCast_ediv, Int.natCast_mul, show ((2 * n - t : Nat) : Int) = 2 * (n : Int) - (t : Int) by omega]
        rw [HD.out]
        clear HD e
        generalize chs (2 * n - t) n = C at *
        have m0 : C * t ≤ 1099511627776 * 16 := Nat.mul_le_mul hc (by omega)
        have m1 : (C : Int) * (t : Int) ≤ 17592186044416 := by
          rw [← Int.natCast_mul]
          exact Int.ofNat_le.2 m0
        have m2 : (0 : Int) ≤ (C : Int) * (t : Int) := by
          rw [← Int.natCast_mul]
          exact Int.natCast_nonneg _
        have m3 : (0 : Int) < 2 * (n : Int) - (t : Int) := by omega
        clear m0
        go_enter Try.func92, Try.ntmps92
        go_wp2_with (go_at_call 106; refine (HC.out _).mono ?_; rintro e w1 ⟨rfl, hb1⟩)
        go_ret
        exact ⟨rfl, hb1⟩
end Go.Proofs.Ytgajknnfmnnfeaa
