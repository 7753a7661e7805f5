/- Pack 2 of what FnPathsReflected needs: ChMath, PathOk. -/
import Derived.Test.YtachijliaedndaaKFnPathsReflected1
import Derived.Test.YtachijliaedndaaProg
import Derived.WalkKit
import Derived.WalkSpells
import Derived.WalkLawsBesides
import Derived.Lib.Hide
/- Binomial numbers. -/
namespace Go.Proofs.Ytachijliaedndaa
open Go.RowKit
/-- the number of ways to choose k of n -/
def chs : Nat → Nat → Nat
  | _, 0 => 1
  | 0, _ + 1 => 0
  | n + 1, k + 1 => chs n k + chs n (k + 1)
theorem chs_zero (n : Nat) : chs n 0 = 1 := by cases n <;> rfl
theorem chs_succ (n k : Nat) : chs (n + 1) (k + 1) = chs n k + chs n (k + 1) := rfl
theorem chs_lt : ∀ (n k : Nat), n < k → chs n k = 0
  | 0, k + 1, _ => rfl
  | n + 1, k + 1, h => by rw [chs_succ, chs_lt n k (by omega), chs_lt n (k + 1) (by omega)]
theorem chs_self (n : Nat) : chs n n = 1 := by
  induction n with
  | zero => rfl
  | succ n ih => rw [chs_succ, ih, chs_lt n (n + 1) (by omega)]
theorem chs_le : ∀ (n k : Nat), chs n k ≤ 2 ^ n
  | n, 0 => by rw [chs_zero]; exact Nat.one_le_two_pow
  | 0, k + 1 => by simp [chs]
  | n + 1, k + 1 => by
    rw [chs_succ, Nat.pow_succ]
    have h1 := chs_le n k
    have h2 := chs_le n (k + 1)
    omega
theorem chs_small (n k : Nat) (h : n ≤ 60) : chs n k ≤ 1152921504606846976 := by
  have h1 := chs_le n k
  have h2 : 2 ^ n ≤ 2 ^ 60 := Nat.pow_le_pow_right (by omega) h
  omega
theorem chs_small40 (n k : Nat) (h : n ≤ 40) : chs n k ≤ 1099511627776 := by
  have h1 := chs_le n k
  have h2 : 2 ^ n ≤ 2 ^ 40 := Nat.pow_le_pow_right (by omega) h
  omega
theorem chs_pos : ∀ (n k : Nat), k ≤ n → 0 < chs n k
  | n, 0, _ => by rw [chs_zero]; omega
  | n + 1, k + 1, h => by
    rw [chs_succ]
    have := chs_pos n k (by omega)
    omega
theorem chs_absorb : ∀ (n k : Nat), (k + 1) * chs (n + 1) (k + 1) = (n + 1) * chs n k
  | 0, 0 => rfl
  | 0, k + 1 => by rw [chs_lt 1 (k + 2) (by omega), chs_lt 0 (k + 1) (by omega)]; simp
  | n + 1, 0 => by
    have h := chs_absorb n 0
    rw [chs_zero] at h ⊢
    rw [chs_succ, chs_zero]
    omega
  | n + 1, k + 1 => by
    have h1 := chs_absorb n k
    have h2 := chs_absorb n (k + 1)
    rw [chs_succ (n + 1) (k + 1)]
    have e : (k + 1 + 1) * (chs (n + 1) (k + 1) + chs (n + 1) (k + 1 + 1)) = (k + 1) * chs (n + 1) (k + 1) + chs (n + 1) (k + 1) + (k + 1 + 1) * chs (n + 1) (k + 1 + 1) := by
      rw [Nat.mul_add, Nat.succ_mul (k + 1)]
    rw [e, h1, h2]
    have e2 : (n + 1 + 1) * chs (n + 1) (k + 1) = (n + 1) * chs (n + 1) (k + 1) + chs (n + 1) (k + 1) := Nat.succ_mul _ _
    rw [e2, chs_succ n k, Nat.mul_add]
    omega
theorem chs_mul (d i : Nat) : chs (d + i) i * (d + (i + 1)) / (i + 1) = chs (d + (i + 1)) (i + 1) := by
  have h := chs_absorb (d + i) i
  have e : chs (d + i) i * (d + (i + 1)) = (i + 1) * chs (d + i + 1) (i + 1) := by rw [h, Nat.mul_comm]; rfl
  rw [e, Nat.mul_div_cancel_left _ (by omega)]
  rfl
theorem chs_symm : ∀ (a b : Nat), chs (a + b) a = chs (a + b) b
  | 0, b => by rw [chs_zero, Nat.zero_add, chs_self]
  | a + 1, 0 => by rw [chs_zero, Nat.add_zero, chs_self]
  | a + 1, b + 1 => by
    have h1 := chs_symm (a + 1) b
    have h2 := chs_symm a (b + 1)
    have e : a + 1 + (b + 1) = (a + 1 + b) + 1 := by omega
    rw [e, chs_succ, chs_succ]
    have e3 : a + 1 + b = a + (b + 1) := by omega
    rw [h1, e3, h2]
    rw [← e3]
    omega
/-- the same over integers: 0 outside -/
def chZ (n k : Int) : Int := if k < 0 ∨ n < k then 0 else (chs n.toNat k.toNat : Nat)
theorem chZ_nat (n k : Nat) : chZ n k = (chs n k : Nat) := by
  unfold chZ
  by_cases h : n < k
  · rw [if_pos (by omega), chs_lt n k h]; rfl
  · rw [if_neg (by omega)]; simp
theorem chZ_no {n k : Int} (h : k < 0 ∨ n < k) : chZ n k = 0 := by unfold chZ; rw [if_pos h]
theorem chZ_bd (n k : Int) (h : n ≤ 40) : 0 ≤ chZ n k ∧ chZ n k ≤ 1099511627776 := by
  unfold chZ
  split
  · omega
  · have := chs_small40 n.toNat k.toNat (by omega); omega
/-- how many paths: 0 where there is no such number of steps -/
def cntOk (u d : Int) : Bool := decide (0 ≤ u) && decide (0 ≤ d) && decide (u + d ≤ 40)
def cntV (u d : Int) : Int := if cntOk u d then chZ (u + d) u else 0
theorem cntV_bd (u d : Int) : 0 ≤ cntV u d ∧ cntV u d ≤ 1099511627776 := by
  unfold cntV cntOk
  split
  · rename_i h; simp at h; exact chZ_bd _ _ (by omega)
  · omega
end Go.Proofs.Ytachijliaedndaa

/- IsPath and paGood, the two tests for a path. -/
namespace Go.Proofs.Ytachijliaedndaa
open Go.RowKit

/-- the first k bytes are steps -/
def UpTo (s : ByteArray) (k : Nat) : Prop := ∀ j (h : j < s.size), j < k → isUD s[j] = true
theorem UpTo.zero (s : ByteArray) : UpTo s 0 := fun _ _ h => absurd h (by omega)
theorem UpTo.succ {s : ByteArray} {k : Nat} (h : UpTo s k) (hk : k < s.size) (hu : isUD s[k] = true) : UpTo s (k + 1) := fun j hj hl => by
  by_cases e : j = k
  · subst e; exact hu
  · exact h j hj (by omega)
theorem UpTo.full {s : ByteArray} {k : Nat} (h : UpTo s k) (hk : k = s.size) (h40 : s.size ≤ 40) : pathB s = true :=
  (pathB_iff s).2 ⟨h40, fun j hj => h j hj (by omega)⟩
theorem pathB_no {s : ByteArray} {k : Nat} (hk : k < s.size) (hu : isUD s[k] = false) : pathB s = false := by
  rw [Bool.eq_false_iff]
  intro h
  rw [((pathB_iff s).1 h).2 k hk] at hu
  exact absurd hu (by simp)
theorem ret_bool {a b : Bool} (h : a = b) : Ending.returned (.bool a) = .returned (.bool b) := by rw [h]
theorem ret_bb {a b c d : Bool} (h : a = b) (k : c = d) : Ending.returned (.tuple #[.bool a, .bool c]) = .returned (.tuple #[.bool b, .bool d]) := by rw [h, k]
theorem ret_ib {a b : Int} {c d : Bool} (h : a = b) (k : c = d) : Ending.returned (.tuple #[.int .i64 a, .bool c]) = .returned (.tuple #[.int .i64 b, .bool d]) := by rw [h, k]
theorem isUD_int (c : UInt8) : isUD c = (((c.toNat : Int) == 85) || ((c.toNat : Int) == 68)) := by
  unfold isUD
  have h1 : (c == 85) = ((c.toNat : Int) == 85) := by
    rw [Bool.eq_iff_iff]; simp [← UInt8.toNat_inj]; omega
  have h2 : (c == 68) = ((c.toNat : Int) == 68) := by
    rw [Bool.eq_iff_iff]; simp [← UInt8.toNat_inj]; omega
  rw [h1, h2]
theorem ud1 {c : UInt8} (h : (c.toNat : Int) = 85) : isUD c = true := by rw [isUD_int]; simp [h]
theorem ud2 {c : UInt8} (h : ((c.toNat : Int) != 85) = false ∨ ((c.toNat : Int) != 68) = false) : isUD c = true := by
  rw [isUD_int]; simpa [bne] using h
theorem ud0 {c : UInt8} (h : ((c.toNat : Int) != 85) = true ∧ ((c.toNat : Int) != 68) = true) : isUD c = false := by
  rw [isUD_int]; simpa [bne] using h

set_option maxHeartbeats 400000 in
theorem isPath_any (s : ByteArray) (w : World) (hs : s.size ≤ maxLen) :
    Calls Try.prog 58 #[.string s] w fun e w' => e = .returned (.bool (pathB s)) ∧ w = w' := by
  unfold maxLen at hs
  by_cases h40 : 40 < s.size
  · go_enter Try.func58, Try.ntmps58
    go_wp2
    go_ret
    exact ⟨by simp [pathB]; omega, rfl⟩
  · go_enter Try.func58, Try.ntmps58
    go_wp2
    go_loop [9] (fun i => ∃ k : Nat, k ≤ s.size ∧ i = .int .i64 k ∧ UpTo s k) (fun i => s.size - (intOf i).toNat)
    case atStart => exact ⟨0, Nat.zero_le _, rfl, UpTo.zero s⟩
    case round =>
      obtain ⟨k, hk, rfl, hu⟩ := hrel
      by_cases hlt : k < s.size
      · go_wp2
        · go_round
          case rel => exact ⟨k + 1, by omega, by go_num, hu.succ hlt (ud1 (by assumption))⟩
          case measure => simp [intOf]; omega
        · go_ret
          exact ⟨ret_bool (pathB_no hlt (ud0 (by assumption))).symm, rfl⟩
        · go_round
          case rel => exact ⟨k + 1, by omega, by go_num, hu.succ hlt (ud2 (by assumption))⟩
          case measure => simp [intOf]; omega
      · go_wp2
        go_ret
        exact ⟨ret_bool (hu.full (by omega) (by omega)).symm, rfl⟩

set_option maxHeartbeats 400000 in
theorem paGood_any (s : ByteArray) (w : World) (hs : s.size ≤ maxLen) :
    Calls Try.prog 143 #[.string s] w fun e w' => e = .returned (.bool (pathB s)) ∧ w = w' := by
  unfold maxLen at hs
  by_cases h40 : 40 < s.size
  · go_enter Try.func143, Try.ntmps143
    go_wp2
    go_ret
    exact ⟨by simp [pathB]; omega, rfl⟩
  · go_enter Try.func143, Try.ntmps143
    go_wp2
    go_loop [3] (fun i => ∃ k : Nat, k ≤ s.size ∧ i = .int .i64 k ∧ UpTo s k) (fun i => s.size - (intOf i).toNat)
    case atStart => exact ⟨0, Nat.zero_le _, rfl, UpTo.zero s⟩
    case round =>
      obtain ⟨k, hk, rfl, hu⟩ := hrel
      by_cases hlt : k < s.size
      · go_wp2
        · go_round
          case rel => exact ⟨k + 1, by omega, by go_num, hu.succ hlt (ud1 (by assumption))⟩
          case measure => simp [intOf]; omega
        · go_ret
          exact ⟨ret_bool (pathB_no hlt (ud0 (by assumption))).symm, rfl⟩
        · go_round
          case rel => exact ⟨k + 1, by omega, by go_num, hu.succ hlt (ud2 (by assumption))⟩
          case measure => simp [intOf]; omega
      · go_wp2
        go_ret
        exact ⟨ret_bool (hu.full (by omega) (by omega)).symm, rfl⟩

end Go.Proofs.Ytachijliaedndaa
