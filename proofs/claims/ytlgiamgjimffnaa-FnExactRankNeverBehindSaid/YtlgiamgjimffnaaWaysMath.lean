/- How many ways on from what is left. -/
import Derived.Test.YtlgiamgjimffnaaRestMath
namespace Go.Proofs.Ytlgiamgjimffnaa
open Go.RowKit
/-- the lead when so many are left -/
def leadV (a b : Nat) (k u d : Int) : Int := (a : Int) - u - k * ((b : Int) - d)
/-- in how many orders what is left can be counted -/
def wv (a b : Nat) (k l u d : Int) : Nat :=
  if u < 0 ∨ d < 0 then 0
  else if u = a ∧ d = b then rsR k l (a + b) a b
  else rs k l (u.toNat + d.toNat) (leadV a b k u d) u.toNat d.toNat
theorem wv_neg {a b : Nat} {k l u d : Int} (h : u < 0 ∨ d < 0) : wv a b k l u d = 0 := by unfold wv; rw [if_pos h]
theorem wv_low {a b : Nat} {k l u d : Int} (h : ¬ (u = a ∧ d = b)) (hl : leadV a b k u d < l) : wv a b k l u d = 0 := by
  unfold wv
  by_cases h0 : u < 0 ∨ d < 0
  · rw [if_pos h0]
  · rw [if_neg h0, if_neg h, rs_low hl]
theorem wv_one {a b : Nat} {k l : Int} (h : ¬ (((0 : Nat) : Int) = a ∧ ((0 : Nat) : Int) = b) → ¬ leadV a b k 0 0 < l) : wv a b k l 0 0 = 1 := by
  unfold wv
  rw [if_neg (by omega)]
  by_cases h2 : (0 : Int) = a ∧ (0 : Int) = b
  · rw [if_pos h2]
    obtain rfl : a = 0 := by omega
    obtain rfl : b = 0 := by omega
    rfl
  · rw [if_neg h2]
    exact rs_zero (h h2)
theorem lead_up (a b : Nat) (k u d : Int) : leadV a b k (u - 1) d = leadV a b k u d + 1 := by unfold leadV; omega
theorem lead_down (a b : Nat) (k u d : Int) : leadV a b k u (d - 1) = leadV a b k u d - k := by
  unfold leadV
  rw [show (b : Int) - (d - 1) = ((b : Int) - d) + 1 by omega, Int.mul_add]; omega
theorem lead_all (a b : Nat) (k : Int) : leadV a b k a b = 0 := by unfold leadV; simp
theorem wv_step {a b : Nat} {k l u d : Int} (hu : 0 ≤ u) (hd : 0 ≤ d) (hua : u ≤ a) (hdb : d ≤ b) (h0 : ¬ (u = 0 ∧ d = 0)) (h : ¬ (u = a ∧ d = b) → ¬ leadV a b k u d < l) :
    wv a b k l u d = wv a b k l u (d - 1) + wv a b k l (u - 1) d := by
  obtain ⟨x, rfl⟩ := Int.eq_ofNat_of_zero_le hu
  obtain ⟨y, rfl⟩ := Int.eq_ofNat_of_zero_le hd
  have c1 : wv a b k l (x : Int) ((y : Int) - 1) = if 0 < y then rs k l (x + (y - 1)) (leadV a b k x y - k) x (y - 1) else 0 := by
    by_cases hy : 0 < y
    · rw [if_pos hy]
      unfold wv
      rw [if_neg (by omega), if_neg (by omega), lead_down]
      rw [show ((y : Int) - 1).toNat = y - 1 by omega, Int.toNat_natCast]
    · rw [if_neg hy, wv_neg (by omega)]
  have c2 : wv a b k l ((x : Int) - 1) (y : Int) = if 0 < x then rs k l (x - 1 + y) (leadV a b k x y + 1) (x - 1) y else 0 := by
    by_cases hx : 0 < x
    · rw [if_pos hx]
      unfold wv
      rw [if_neg (by omega), if_neg (by omega), lead_up]
      rw [show ((x : Int) - 1).toNat = x - 1 by omega, Int.toNat_natCast]
    · rw [if_neg hx, wv_neg (by omega)]
  rw [c1, c2]
  unfold wv
  rw [if_neg (by omega)]
  obtain ⟨n, hn⟩ : ∃ n, x + y = n + 1 := ⟨x + y - 1, by omega⟩
  by_cases ha : (x : Int) = a ∧ (y : Int) = b
  · obtain rfl : x = a := by omega
    obtain rfl : y = b := by omega
    rw [if_pos ha, hn, rsR, lead_all]
    rw [Nat.add_comm]
    congr 1
    · by_cases hy : 0 < y
      · rw [if_pos hy, if_pos hy, show x + (y - 1) = n by omega]; simp
      · rw [if_neg hy, if_neg hy]
    · by_cases hx : 0 < x
      · rw [if_pos hx, if_pos hx, show x - 1 + y = n by omega]; simp
      · rw [if_neg hx, if_neg hx]
  · rw [if_neg ha, Int.toNat_natCast, Int.toNat_natCast, hn, rs_step (h ha)]
    rw [Nat.add_comm]
    congr 1
    · by_cases hy : 0 < y
      · rw [if_pos hy, if_pos hy, show x + (y - 1) = n by omega]
      · rw [if_neg hy, if_neg hy]
    · by_cases hx : 0 < x
      · rw [if_pos hx, if_pos hx, show x - 1 + y = n by omega]
      · rw [if_neg hx, if_neg hx]
theorem rsR_le (k l : Int) (n u d : Nat) : rsR k l n u d ≤ 2 ^ n := by
  cases n with
  | zero => simp [rsR]
  | succ n =>
    have h1 := rs_le k l n 1 (u - 1) d
    have h2 := rs_le k l n (-k) u (d - 1)
    rw [rsR, Nat.pow_succ]
    split <;> split <;> omega
theorem wv_small (a b : Nat) (k l u d : Int) (hab : a + b ≤ 40) (hu : u ≤ a) (hd : d ≤ b) : wv a b k l u d ≤ 1099511627776 := by
  unfold wv
  split
  · omega
  · split
    · have h1 := rsR_le k l (a + b) a b
      have h2 : 2 ^ (a + b) ≤ 2 ^ 40 := Nat.pow_le_pow_right (by omega) hab
      omega
    · exact rs_small k l _ _ _ _ (by omega)
/-- how many entries a call may add, by its depth -/
def capM : Nat → Nat
  | 0 => 0
  | n + 1 => 2 * capM n + 1
theorem capM_le (n : Nat) : capM n < 2 ^ n := by
  induction n with
  | zero => simp [capM]
  | succ n ih => unfold capM; rw [Nat.pow_succ]; omega
theorem capM_small {n : Nat} (h : n ≤ 43) : capM n ≤ 8796093022208 := by
  have h1 := capM_le n
  have h2 : 2 ^ n ≤ 2 ^ 43 := Nat.pow_le_pow_right (by omega) h
  omega
end Go.Proofs.Ytlgiamgjimffnaa
