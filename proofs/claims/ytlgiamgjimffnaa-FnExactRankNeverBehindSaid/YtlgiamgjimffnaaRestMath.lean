/- The table of ways on, entry by entry. -/
import Derived.Test.YtlgiamgjimffnaaBalWays
namespace Go.Proofs.Ytlgiamgjimffnaa
open Go.RowKit
theorem rs_le (k l : Int) : ∀ (n : Nat) (m : Int) (u d : Nat), rs k l n m u d ≤ 2 ^ n
  | 0, m, u, d => by
    unfold rs; split <;> simp
  | n + 1, m, u, d => by
    have h1 := rs_le k l n (m + 1) (u - 1) d
    have h2 := rs_le k l n (m - k) u (d - 1)
    unfold rs
    rw [Nat.pow_succ]
    split
    · omega
    · split <;> split <;> omega
theorem rs_small (k l : Int) (n : Nat) (m : Int) (u d : Nat) (h : n ≤ 40) : rs k l n m u d ≤ 1099511627776 := by
  have h1 := rs_le k l n m u d
  have h2 : 2 ^ n ≤ 2 ^ 40 := Nat.pow_le_pow_right (by omega) h
  omega
/-- the margin where i ups and j downs are left -/
def atM (a b : Nat) (k m : Int) (j i : Nat) : Int := m + ((a : Int) - i) - k * ((b : Int) - j)
/-- the ways from there -/
def wayV (a b : Nat) (k m : Int) (j i : Nat) : Int := (rs k 0 (i + j) (atM a b k m j i) i j : Nat)
theorem wayV_bd (a b : Nat) (k m : Int) (j i : Nat) (h : i + j ≤ 40) : 0 ≤ wayV a b k m j i ∧ wayV a b k m j i ≤ 1099511627776 := by
  have := rs_small k 0 (i + j) (atM a b k m j i) i j h
  unfold wayV; omega
theorem wayV_low {a b : Nat} {k m : Int} {j i : Nat} (h : atM a b k m j i < 0) : wayV a b k m j i = 0 := by unfold wayV; rw [rs_low h]; rfl
theorem wayV_0 {a b : Nat} {k m : Int} (h : ¬ atM a b k m 0 0 < 0) : wayV a b k m 0 0 = 1 := by unfold wayV; rw [show 0 + 0 = 0 from rfl, rs_zero h]; rfl
theorem wayV_up {a b : Nat} {k m : Int} {i : Nat} (h : ¬ atM a b k m 0 (i + 1) < 0) : wayV a b k m 0 (i + 1) = wayV a b k m 0 i := by
  have e : atM a b k m 0 (i + 1) + 1 = atM a b k m 0 i := by unfold atM; omega
  have h1 := rs_step (n := i) (u := i + 1) (d := 0) (k := k) h
  rw [if_pos (by omega), if_neg (by omega), e] at h1
  unfold wayV
  rw [show i + 1 + 0 = i + 1 from rfl, h1]
  rfl
theorem atM_down (a b : Nat) (k m : Int) (j i : Nat) : atM a b k m (j + 1) i - k = atM a b k m j i := by
  unfold atM
  have : k * ((b : Int) - ((j + 1 : Nat) : Int)) = k * ((b : Int) - j) - k := by
    rw [show ((j + 1 : Nat) : Int) = (j : Int) + 1 from by omega, show (b : Int) - ((j : Int) + 1) = ((b : Int) - j) - 1 by omega, Int.mul_sub]; omega
  omega
theorem wayV_down {a b : Nat} {k m : Int} {j : Nat} (h : ¬ atM a b k m (j + 1) 0 < 0) : wayV a b k m (j + 1) 0 = wayV a b k m j 0 := by
  have h1 := rs_step (n := j) (u := 0) (d := j + 1) (k := k) h
  rw [if_neg (by omega), if_pos (by omega), atM_down] at h1
  unfold wayV
  rw [show 0 + (j + 1) = j + 1 by omega, h1]
  simp
theorem wayV_both {a b : Nat} {k m : Int} {j i : Nat} (h : ¬ atM a b k m (j + 1) (i + 1) < 0) : wayV a b k m (j + 1) (i + 1) = wayV a b k m (j + 1) i + wayV a b k m j (i + 1) := by
  have e : atM a b k m (j + 1) (i + 1) + 1 = atM a b k m (j + 1) i := by unfold atM; omega
  have h1 := rs_step (n := i + (j + 1)) (u := i + 1) (d := j + 1) (k := k) h
  rw [if_pos (by omega), if_pos (by omega), e, atM_down] at h1
  unfold wayV
  rw [show i + 1 + (j + 1) = i + (j + 1) + 1 by omega, h1, show i + 1 - 1 = i by omega, show j + 1 - 1 = j by omega, show i + 1 + j = i + (j + 1) by omega]
  simp
/-- the table when rows below J are full, and row J up to I -/
def stT (V : Nat → Nat → Int) (J I : Nat) (j i : Nat) : Int := if j < J ∨ (j = J ∧ i < I) then V j i else 0
theorem stT_old {V : Nat → Nat → Int} {J I j i : Nat} (h : j < J ∨ (j = J ∧ i < I)) : stT V J I j i = V j i := by unfold stT; rw [if_pos h]
theorem stT_new {V : Nat → Nat → Int} {J I j i : Nat} (h : ¬ (j < J ∨ (j = J ∧ i < I))) : stT V J I j i = 0 := by unfold stT; rw [if_neg h]
theorem stT_set (V : Nat → Nat → Int) (J I j i : Nat) : (if j = J ∧ i = I then V J I else stT V J I j i) = stT V J (I + 1) j i := by
  by_cases h : j = J ∧ i = I
  · obtain ⟨rfl, rfl⟩ := h
    rw [if_pos ⟨rfl, rfl⟩, stT_old (by omega)]
  · rw [if_neg h]
    unfold stT
    by_cases h2 : j < J ∨ (j = J ∧ i < I)
    · rw [if_pos h2, if_pos (by omega)]
    · rw [if_neg h2, if_neg (by omega)]
theorem stT_skip {V : Nat → Nat → Int} {J I : Nat} (h : V J I = 0) (j i : Nat) : stT V J I j i = stT V J (I + 1) j i := by
  rw [← stT_set]
  by_cases h2 : j = J ∧ i = I
  · obtain ⟨rfl, rfl⟩ := h2
    rw [if_pos ⟨rfl, rfl⟩, stT_new (by omega), h]
  · rw [if_neg h2]
theorem stT_row (V : Nat → Nat → Int) (J : Nat) (j i : Nat) : (if j = J then 0 else stT V J 0 j i) = stT V J 0 j i := by
  by_cases h : j = J
  · rw [if_pos h, stT_new (by omega)]
  · rw [if_neg h]
theorem stT_next {V : Nat → Nat → Int} {J m : Nat} {j i : Nat} (hi : i < m) (hj : j < J + 1) : stT V J m j i = stT V (J + 1) 0 j i := by
  unfold stT
  rw [if_pos (by omega), if_pos (by omega)]
end Go.Proofs.Ytlgiamgjimffnaa
