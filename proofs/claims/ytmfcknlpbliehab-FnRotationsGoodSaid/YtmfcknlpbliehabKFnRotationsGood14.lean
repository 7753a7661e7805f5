/- Pack 14 of what FnRotationsGood needs: ChMath, Counts. -/
import Derived.Test.YtmfcknlpbliehabKFnRotationsGood13
/- Binomial numbers. -/
namespace Go.Proofs.Ytmfcknlpbliehab
open Go.RowKit
/-- the number of ways to choose k of n -/
def chs : Nat → Nat → Nat
  | _, 0 => 1
  | 0, _ + 1 => 0
  | n + 1, k + 1 => chs n k + chs n (k + 1)
theorem chs_zero (n : Nat) : chs n 0 = 1 := by cases n <;> rfl
theorem chs_succ (n k : Nat) : chs (n + 1) (k + 1) = chs n k + chs n (k + 1) := rfl
theorem chs_lt : ∀ (n k : Nat), n < k → chs n k = 0
  | 0, k + 1, _ => rfl
  | n + 1, k + 1, h => by rw [chs_succ, chs_lt n k (by omega), chs_lt n (k + 1) (by omega)]
theorem chs_self (n : Nat) : chs n n = 1 := by
  induction n with
  | zero => rfl
  | succ n ih => rw [chs_succ, ih, chs_lt n (n + 1) (by omega)]
theorem chs_le : ∀ (n k : Nat), chs n k ≤ 2 ^ n
  | n, 0 => by rw [chs_zero]; exact Nat.one_le_two_pow
  | 0, k + 1 => by simp [chs]
  | n + 1, k + 1 => by
    rw [chs_succ, Nat.pow_succ]
    have h1 := chs_le n k
    have h2 := chs_le n (k + 1)
    omega
theorem chs_small (n k : Nat) (h : n ≤ 60) : chs n k ≤ 1152921504606846976 := by
  have h1 := chs_le n k
  have h2 : 2 ^ n ≤ 2 ^ 60 := Nat.pow_le_pow_right (by omega) h
  omega
theorem chs_small40 (n k : Nat) (h : n ≤ 40) : chs n k ≤ 1099511627776 := by
  have h1 := chs_le n k
  have h2 : 2 ^ n ≤ 2 ^ 40 := Nat.pow_le_pow_right (by omega) h
  omega
theorem chs_pos : ∀ (n k : Nat), k ≤ n → 0 < chs n k
  | n, 0, _ => by rw [chs_zero]; omega
  | n + 1, k + 1, h => by
    rw [chs_succ]
    have := chs_pos n k (by omega)
    omega
theorem chs_absorb : ∀ (n k : Nat), (k + 1) * chs (n + 1) (k + 1) = (n + 1) * chs n k
  | 0, 0 => rfl
  | 0, k + 1 => by rw [chs_lt 1 (k + 2) (by omega), chs_lt 0 (k + 1) (by omega)]; simp
  | n + 1, 0 => by
    have h := chs_absorb n 0
    rw [chs_zero] at h ⊢
    rw [chs_succ, chs_zero]
    omega
  | n + 1, k + 1 => by
    have h1 := chs_absorb n k
    have h2 := chs_absorb n (k + 1)
    rw [chs_succ (n + 1) (k + 1)]
    have e : (k + 1 + 1) * (chs (n + 1) (k + 1) + chs (n + 1) (k + 1 + 1)) = (k + 1) * chs (n + 1) (k + 1) + chs (n + 1) (k + 1) + (k + 1 + 1) * chs (n + 1) (k + 1 + 1) := by
      rw [Nat.mul_add, Nat.succ_mul (k + 1)]
    rw [e, h1, h2]
    have e2 : (n + 1 + 1) * chs (n + 1) (k + 1) = (n + 1) * chs (n + 1) (k + 1) + chs (n + 1) (k + 1) := Nat.succ_mul _ _
    rw [e2, chs_succ n k, Nat.mul_add]
    omega
theorem chs_mul (d i : Nat) : chs (d + i) i * (d + (i + 1)) / (i + 1) = chs (d + (i + 1)) (i + 1) := by
  have h := chs_absorb (d + i) i
  have e : chs (d + i) i * (d + (i + 1)) = (i + 1) * chs (d + i + 1) (i + 1) := by rw [h, Nat.mul_comm]; rfl
  rw [e, Nat.mul_div_cancel_left _ (by omega)]
  rfl
theorem chs_symm : ∀ (a b : Nat), chs (a + b) a = chs (a + b) b
  | 0, b => by rw [chs_zero, Nat.zero_add, chs_self]
  | a + 1, 0 => by rw [chs_zero, Nat.add_zero, chs_self]
  | a + 1, b + 1 => by
    have h1 := chs_symm (a + 1) b
    have h2 := chs_symm a (b + 1)
    have e : a + 1 + (b + 1) = (a + 1 + b) + 1 := by omega
    rw [e, chs_succ, chs_succ]
    have e3 : a + 1 + b = a + (b + 1) := by omega
    rw [h1, e3, h2]
    rw [← e3]
    omega
/-- the same over integers: 0 outside -/
def chZ (n k : Int) : Int := if k < 0 ∨ n < k then 0 else (chs n.toNat k.toNat : Nat)
theorem chZ_nat (n k : Nat) : chZ n k = (chs n k : Nat) := by
  unfold chZ
  by_cases h : n < k
  · rw [if_pos (by omega), chs_lt n k h]; rfl
  · rw [if_neg (by omega)]; simp
theorem chZ_no {n k : Int} (h : k < 0 ∨ n < k) : chZ n k = 0 := by unfold chZ; rw [if_pos h]
theorem chZ_bd (n k : Int) (h : n ≤ 40) : 0 ≤ chZ n k ∧ chZ n k ≤ 1099511627776 := by
  unfold chZ
  split
  · omega
  · have := chs_small40 n.toNat k.toNat (by omega); omega
/-- how many paths: 0 where there is no such number of steps -/
def cntOk (u d : Int) : Bool := decide (0 ≤ u) && decide (0 ≤ d) && decide (u + d ≤ 40)
def cntV (u d : Int) : Int := if cntOk u d then chZ (u + d) u else 0
theorem cntV_bd (u d : Int) : 0 ≤ cntV u d ∧ cntV u d ≤ 1099511627776 := by
  unfold cntV cntOk
  split
  · rename_i h; simp at h; exact chZ_bd _ _ (by omega)
  · omega
end Go.Proofs.Ytmfcknlpbliehab

/- CountPaths; paChoose, the numbers of ways to choose. -/
namespace Go.Proofs.Ytmfcknlpbliehab
open Go.RowKit
theorem cntOk_yes {u d : Int} (h : 0 ≤ u ∧ 0 ≤ d ∧ u + d ≤ 40) : cntOk u d = true := by simp [cntOk, h]
theorem cntOk_no {u d : Int} (h : ¬ (0 ≤ u ∧ 0 ≤ d ∧ u + d ≤ 40)) : cntOk u d = false := by
  rw [Bool.eq_false_iff]
  intro e
  simp [cntOk] at e
  exact h ⟨e.1.1, e.1.2, e.2⟩
theorem cntV_yes {u d : Nat} (h : u + d ≤ 40) : cntV u d = (chs (d + u) u : Nat) := by
  unfold cntV
  rw [cntOk_yes (by omega), if_pos rfl]
  have := chZ_nat (u + d) u
  rw [Nat.add_comm d u, ← this]
  rfl
theorem cntV_no {u d : Int} (h : ¬ (0 ≤ u ∧ 0 ≤ d ∧ u + d ≤ 40)) : cntV u d = 0 := by unfold cntV; rw [cntOk_no h]; rfl
set_option maxHeartbeats 400000 in
theorem count_no (u d : Int) (w : World) (h : ¬ (0 ≤ u ∧ 0 ≤ d ∧ u + d ≤ 40)) :
    Calls Try.prog 67 #[.int .i64 u, .int .i64 d] w fun e w' => e = .returned (.tuple #[.int .i64 0, .bool false]) ∧ w = w' := by
  by_cases h1 : u < 0
  · go_enter Try.func67, Try.ntmps67
    go_wp2
    go_ret2
    exact ⟨rfl, rfl⟩
  · by_cases h2 : d < 0
    · go_enter Try.func67, Try.ntmps67
      go_wp2
      go_ret2
      exact ⟨rfl, rfl⟩
    · by_cases h3 : 40 < u
      · go_enter Try.func67, Try.ntmps67
        go_wp2
        go_ret2
        exact ⟨rfl, rfl⟩
      · have h4 : 40 - u < d := by omega
        clear h
        go_enter Try.func67, Try.ntmps67
        go_wp2
        go_ret2
        exact ⟨rfl, rfl⟩
set_option maxHeartbeats 400000 in
theorem count_yes (u d : Nat) (w : World) (h : u + d ≤ 40) :
    Calls Try.prog 67 #[.int .i64 u, .int .i64 d] w fun e w' => e = .returned (.tuple #[.int .i64 (chs (d + u) u : Nat), .bool true]) ∧ w = w' := by
  have h1 : ¬ (u : Int) < 0 := by omega
  have h2 : ¬ (d : Int) < 0 := by omega
  have h3 : ¬ 40 < (u : Int) := by omega
  have h4 : ¬ 40 - (u : Int) < d := by omega
  go_enter Try.func67, Try.ntmps67
  go_wp2
  go_loop [6, 7] (fun c i => ∃ k : Nat, k ≤ u ∧ i = .int .i64 ((k : Int) + 1) ∧ c = .int .i64 (chs (d + k) k : Nat)) (fun _ i => u + 1 - (intOf i).toNat)
  case atStart => exact ⟨0, by omega, rfl, by rw [chs_zero]; rfl⟩
  case round =>
    obtain ⟨k, hk, rfl, rfl⟩ := hrel
    by_cases hlt : k < u
    · have hs := chs_small40 (d + k) k (by omega)
      have HM := Lib.hid (chs_mul d k)
      generalize hc : chs (d + k) k = c at *
      have HC := Lib.hid hc
      clear hc
      have hmul : 0 ≤ (c : Int) * ((d : Int) + ((k : Int) + 1)) ∧ (c : Int) * ((d : Int) + ((k : Int) + 1)) ≤ 9223372036854775807 := by
        have e : (c : Int) * ((d : Int) + ((k : Int) + 1)) = ((c * (d + (k + 1)) : Nat) : Int) := by simp
        rw [e]
        have := Nat.mul_le_mul hs (show d + (k + 1) ≤ 41 by omega)
        omega
      go_wp2
      go_round
      case rel => exact ⟨k + 1, by omega, by go_num, by rw [← HM.out]; go_num⟩
      case measure => simp [intOf]; omega
    · go_wp2
      obtain rfl : k = u := by omega
      go_ret2
      exact ⟨rfl, rfl⟩
theorem count_ret (u d : Int) (w : World) :
    Calls Try.prog 67 #[.int .i64 u, .int .i64 d] w fun e w' => e = .returned (.tuple #[.int .i64 (cntV u d), .bool (cntOk u d)]) ∧ w = w' := by
  by_cases h : 0 ≤ u ∧ 0 ≤ d ∧ u + d ≤ 40
  · obtain ⟨hu0, hd0, hs⟩ := h
    obtain ⟨a, rfl⟩ := Int.eq_ofNat_of_zero_le hu0
    obtain ⟨b, rfl⟩ := Int.eq_ofNat_of_zero_le hd0
    rw [cntOk_yes ⟨hu0, hd0, hs⟩, cntV_yes (by omega)]
    exact count_yes a b w (by omega)
  · rw [cntOk_no h, cntV_no h]
    exact count_no u d w h
end Go.Proofs.Ytmfcknlpbliehab
