/- The program's countToEnd. -/
import Derived.Test.YtnlmjeakdjmohaaTchMath
import Derived.Test.YtnlmjeakdjmohaaCounts
namespace Go.Proofs.Ytnlmjeakdjmohaa
open Go.RowKit
set_option linter.unusedVariables false
theorem toZ_cntV {n h : Int} (ho : (n + h) % 2 = 0) (n1 : 0 ≤ n) (n2 : n ≤ 40) : cntV ((n + h).tdiv 2) ((n - h).tdiv 2) = toZ n h := by
  obtain ⟨k, hk⟩ : ∃ k : Int, n + h = 2 * k := ⟨(n + h) / 2, by omega⟩
  have e2 : n - h = 2 * (n - k) := by omega
  have hh : h = 2 * k - n := by omega
  rw [hk, e2, Int.mul_tdiv_cancel_left _ (by omega), Int.mul_tdiv_cancel_left _ (by omega)]
  unfold toZ
  by_cases hb : h < -n ∨ n < h
  · rw [if_pos (.inr hb), cntV_no (by omega)]
  · rw [if_neg (by omega)]
    unfold cntV
    rw [cntOk_yes (by omega), if_pos rfl, hk, Int.mul_ediv_cancel_left _ (by omega), show k + (n - k) = n by omega]
set_option maxHeartbeats 400000 in
theorem countToEnd_ret (n h : Int) (w : World) (hn : 0 ≤ n ∧ n ≤ 40) (hh : -1000000 ≤ h ∧ h ≤ 1000000) : Calls Try.prog 138 #[.int .i64 n, .int .i64 h] w fun e w' => e = .returned (.int .i64 (toZ n h)) ∧ w = w' := by
  obtain ⟨n1, n2⟩ := hn
  obtain ⟨h1, h2⟩ := hh
  by_cases ho : (n + h) % 2 = 0
  · have t0 : (n + h).tmod 2 = 0 := Int.tmod_eq_zero_of_dvd (Int.dvd_of_emod_eq_zero ho)
    have HC : Hid (∀ w, Calls Try.prog 88 #[.int .i64 ((n + h).tdiv 2), .int .i64 ((n - h).tdiv 2)] w fun e w' => ∃ ok, e = .returned (.tuple #[.int .i64 (toZ n h), .bool ok]) ∧ w = w') := Lib.hid fun w => by
      have := count_ret ((n + h).tdiv 2) ((n - h).tdiv 2) w
      rw [toZ_cntV ho n1 n2] at this
      exact this.mono fun _ _ ⟨a, b⟩ => ⟨_, a, b⟩
    clear ho
    generalize toZ n h = z at *
    go_enter Try.func138, Try.ntmps138
    go_wp2_with (go_at_call 88; refine (HC.out _).mono ?_; rintro e w' ⟨ok, rfl, rfl⟩)
    go_ret
    exact ⟨rfl, rfl⟩
  · have e : toZ n h = 0 := by unfold toZ; rw [if_pos (.inl ho)]
    have t0 : ¬ (n + h).tmod 2 = 0 := fun q => ho (Int.emod_eq_zero_of_dvd (Int.dvd_of_tmod_eq_zero q))
    rw [e]
    clear e ho
    go_enter Try.func138, Try.ntmps138
    go_wp2
    go_ret
    exact ⟨rfl, rfl⟩
end Go.Proofs.Ytnlmjeakdjmohaa
