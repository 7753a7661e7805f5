/- CountWithTies. -/
import Derived.Test.YtcnggafbdjhagaaCwtS
import Derived.Test.YtcnggafbdjhagaaBalCount
namespace Go.Proofs.Ytcnggafbdjhagaa
open Go.RowKit
theorem up_val {n t : Nat} (hn : n ≤ 20) (ht : t ≤ n) : ∃ z : Nat, aheadV n ((n : Int) - (t : Int)) 1 = (z : Int) ∧ tieW t n = z * 2 ^ t ∧ z ≤ 1099511627776 := by
  have hok : allOk n ((n : Int) - (t : Int)) 1 = true := Asked.ok ⟨by omega, by omega, by omega, by omega, by omega⟩
  have hf := tie_form hn (show t ≤ 20 by omega) ht
  have hsm := tieW_small (show t ≤ 20 by omega) hn
  rw [aheadV_yes hok]
  have hc : cntV (n : Int) ((n : Int) - (t : Int)) = ((chs (n + (n - t)) n : Nat) : Int) := by
    rw [show (n : Int) - (t : Int) = ((n - t : Nat) : Int) by omega]
    rw [cntV_yes (by omega), Nat.add_comm]
  rw [hc]
  by_cases h0 : n = 0
  · subst h0
    obtain rfl : t = 0 := by omega
    exact ⟨1, by rw [aheadN_2 (by omega) (by omega)]; rfl, by rw [hf]; simp, by omega⟩
  · rw [if_neg h0] at hf
    refine ⟨chs (n + (n - t)) n * t / (n + (n - t)), ?_, hf, ?_⟩
    · rw [aheadN_3 (by omega) (by omega)]
      rw [show (n : Int) - 1 * ((n : Int) - (t : Int)) = (t : Int) by omega, show (n : Int) + ((n : Int) - (t : Int)) = ((n + (n - t) : Nat) : Int) by omega]
      rw [Int.natCast_ediv, Int.natCast_mul]
    · rw [hf] at hsm
      have h1 := Nat.one_le_two_pow (n := t)
      have h2 := Nat.mul_le_mul_left (chs (n + (n - t)) n * t / (n + (n - t))) h1
      omega
set_option maxHeartbeats 400000 in
theorem cwt_yes (n t : Nat) (w : World) (hn : n ≤ 20) (ht : t ≤ 20) :
    Calls Try.prog 53 #[.int .i64 n, .int .i64 t] w fun e w' => e = .returned (.tuple #[.int .i64 (tieW t n : Nat), .bool true]) ∧ w = w' := by
  have j1 : decide ((n : Int) < 0) = false := decide_eq_false (by omega)
  have j2 : decide ((t : Int) < 0) = false := decide_eq_false (by omega)
  have j3 : decide (20 < n) = false := decide_eq_false (by omega)
  have j4 : decide (20 < t) = false := decide_eq_false (by omega)
  by_cases htn : t ≤ n
  · have j5 : decide (n < t) = false := decide_eq_false (by omega)
    obtain ⟨z, hz, htw, hzb⟩ := up_val hn htn
    have hok : allOk n ((n : Int) - (t : Int)) 1 = true := Asked.ok ⟨by omega, by omega, by omega, by omega, by omega⟩
    have HC : Hid (∀ w, Calls Try.prog 33 #[.int .i64 n, .int .i64 ((n : Int) - (t : Int)), .int .i64 1] w fun e w' => e = .returned (.tuple #[.int .i64 (z : Int), .bool true]) ∧ w = w') := Lib.hid fun w => by
      rw [← hz, ← hok]; exact countAhead_any _ _ _ w
    have hsm := tieW_small ht hn
    have HTW := Lib.hid htw
    clear hz hok htw
    rw [HTW.out] at hsm ⊢
    go_enter Try.func53, Try.ntmps53
    go_wp2_with (go_at_call 33; refine (HC.out _).mono ?_; rintro e w' ⟨rfl, rfl⟩)
    go_ret2
    have hcast : ((z * 2 ^ t : Nat) : Int) = (z : Int) * 2 ^ t := by simp
    exact ⟨ret_ib (by rw [← hcast]; exact IntWalk.wrap64_in _ (by omega)) rfl, rfl⟩
  · have j5 : decide (n < t) = true := decide_eq_true (by omega)
    have HZ := Lib.hid (tie_none hn ht (by omega))
    rw [HZ.out]
    go_enter Try.func53, Try.ntmps53
    go_wp2
    go_ret2
    exact ⟨rfl, rfl⟩
set_option maxHeartbeats 400000 in
theorem cwt_no (n t : Int) (w : World) (h : cwOk n t = false) :
    Calls Try.prog 53 #[.int .i64 n, .int .i64 t] w fun e w' => e = .returned (.tuple #[.int .i64 0, .bool false]) ∧ w = w' := by
  have h' : ¬ ((0 ≤ n ∧ n ≤ 20) ∧ 0 ≤ t ∧ t ≤ 20) := by
    intro hh
    unfold cwOk inB at h
    simp [hh] at h
  by_cases h1 : n < 0
  · clear h h'
    go_enter Try.func53, Try.ntmps53
    go_wp2
    go_ret2
    exact ⟨rfl, rfl⟩
  · by_cases h2 : 20 < n
    · clear h h'
      go_enter Try.func53, Try.ntmps53
      go_wp2
      go_ret2
      exact ⟨rfl, rfl⟩
    · by_cases h3 : t < 0
      · clear h h'
        go_enter Try.func53, Try.ntmps53
        go_wp2
        go_ret2
        exact ⟨rfl, rfl⟩
      · have h4 : 20 < t := by omega
        clear h h'
        go_enter Try.func53, Try.ntmps53
        go_wp2
        go_ret2
        exact ⟨rfl, rfl⟩
theorem cwt_ret (n t : Int) (w : World) : Calls Try.prog 53 #[.int .i64 n, .int .i64 t] w (Ret w (.tuple #[.int .i64 (cwV n t), .bool (cwOk n t)])) := by
  unfold cwV
  rcases Bool.eq_false_or_eq_true (cwOk n t) with h | h
  · have h2 := cwOk_yes h
    obtain ⟨x, rfl⟩ := Int.eq_ofNat_of_zero_le h2.1.1
    obtain ⟨y, rfl⟩ := Int.eq_ofNat_of_zero_le h2.2.1
    rw [h, if_pos rfl, Int.toNat_natCast, Int.toNat_natCast]
    exact (cwt_yes x y w (by omega) (by omega)).mono fun _ _ ⟨h1, h2⟩ => ⟨h1, h2 ▸ Below.refl _ _⟩
  · rw [h]
    exact (cwt_no n t w h).mono fun _ _ ⟨h1, h2⟩ => ⟨h1, h2 ▸ Below.refl _ _⟩
end Go.Proofs.Ytcnggafbdjhagaa
