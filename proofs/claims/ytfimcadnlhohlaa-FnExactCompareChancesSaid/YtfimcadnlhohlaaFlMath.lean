/- Numbers in single precision: words from 0 up to the infinity, told by how many units of the least magnitude they stand for. -/
import Derived.Laws.FloatArith
namespace Go.Proofs.Ytfimcadnlhohlaa
open Go.RowKit
set_option linter.unusedVariables false
/-- the units that a word stands for -/
def fv (w : Nat) : Nat := if w < 8388608 then w else (8388608 + w % 8388608) * 2 ^ (w / 8388608 - 1)
theorem fv_of (e k : Nat) (h1 : 8388608 ≤ k) (h2 : k ≤ 16777216) : fv (e * 8388608 + k) = k * 2 ^ e := by
  unfold fv
  rw [if_neg (by omega)]
  by_cases h : k = 16777216
  · subst h
    rw [show (e * 8388608 + 16777216) % 8388608 = 0 by omega, show (e * 8388608 + 16777216) / 8388608 - 1 = e + 1 by omega, Nat.pow_succ]
    omega
  · rw [show (e * 8388608 + k) % 8388608 = k - 8388608 by omega, show (e * 8388608 + k) / 8388608 - 1 = e by omega, show 8388608 + (k - 8388608) = k by omega]
theorem fv_small {w : Nat} (h : w < 8388608) : fv w = w := by unfold fv; rw [if_pos h]
theorem fv_normal {w : Nat} (h : 8388608 ≤ fv w) : 8388608 ≤ w := by
  rcases Nat.lt_or_ge w 8388608 with h1 | h1
  · rw [fv_small h1] at h; omega
  · exact h1
def INF : Nat := 2139095040
theorem inf_rung : Ieee.single.infRung = 2139095040 := by decide
theorem sign_weight : Ieee.single.signWeight = 2147483648 := by decide
theorem binade : Ieee.single.binade = 8388608 := by decide
theorem least_place : Ieee.single.leastPlace = -149 := by decide
/-- a finite word that is not negative, read -/
theorem read_fin {w : Nat} (h : w < 2139095040) : ∃ (m : Nat) (p : Int), Ieee.single.read w = .number false m p ∧ -149 ≤ p ∧ m * 2 ^ (p + 149).toNat = fv w ∧ (8388608 ≤ w → 8388608 ≤ m) ∧ m < 16777216 := by
  unfold Ieee.Format.read
  simp only [inf_rung, sign_weight, binade, least_place]
  have h1 : w / 2147483648 % 2 = 0 := by omega
  have h2 : w % 2147483648 = w := by omega
  rw [h1, h2]
  by_cases c : w < 8388608
  · rw [if_pos c]
    exact ⟨w, -149, rfl, by omega, by rw [fv_small c]; simp, by omega, by omega⟩
  · rw [if_neg c, if_pos h]
    refine ⟨8388608 + w % 8388608, -149 + ((w / 8388608 - 1 : Nat) : Int), rfl, by omega, ?_, by omega, by omega⟩
    unfold fv
    rw [if_neg c, show (-149 + ((w / 8388608 - 1 : Nat) : Int) + 149).toNat = w / 8388608 - 1 by omega]
theorem shiftl (m k : Nat) : m <<< k = m * 2 ^ k := Nat.shiftLeft_eq m k
/-- cut to a whole number: at most one too much, never too little -/
theorem cut_zero (neg : Bool) (n : Nat) : Ieee.Toward.even.cut neg n 0 = n := by
  unfold Ieee.Toward.cut
  simp [Nat.mod_one]
theorem cut_bd (neg : Bool) (n drop : Nat) (h : drop ≤ n.log2 + 2) : ∃ k, Ieee.Toward.even.cut neg n drop = k ∧ n / 2 ^ drop ≤ k ∧ k ≤ n / 2 ^ drop + 1 ∧ k * 2 ^ drop ≤ n + 2 ^ drop ∧ n ≤ k * 2 ^ drop + 2 ^ drop := by
  refine ⟨_, rfl, ?_⟩
  unfold Ieee.Toward.cut
  simp only [shiftl, Nat.one_mul]
  rw [show min drop (n.log2 + 2) = drop by omega]
  have hp : 0 < 2 ^ drop := Nat.two_pow_pos drop
  have hd := Nat.div_add_mod n (2 ^ drop)
  have hm := Nat.mod_lt n hp
  generalize (decide (2 ^ drop < 2 * (n % 2 ^ drop)) || 2 ^ drop == 2 * (n % 2 ^ drop) && n / 2 ^ drop % 2 == 1) = c at *
  rw [Nat.mul_comm] at hd
  generalize n / 2 ^ drop = low at *
  generalize n % 2 ^ drop = rest at *
  cases c
  · simp only [Bool.toNat_false, Nat.add_zero]
    generalize low * 2 ^ drop = z at *
    omega
  · simp only [Bool.toNat_true, Nat.add_mul, Nat.one_mul]
    generalize low * 2 ^ drop = z at *
    omega
theorem log2_bd {n : Nat} (h : 0 < n) : 2 ^ n.log2 ≤ n ∧ n < 2 ^ (n.log2 + 1) := ⟨Nat.log2_self_le (by omega), Nat.lt_log2_self⟩
/-- rounding: the word is finite, and its units are near -/
theorem near_fin (m : Nat) (p : Int) (hp : -149 ≤ p) (hM : m * 2 ^ (p + 149).toNat < 2 ^ 240) :
    ∃ r, Ieee.single.nearest false m p = r ∧ r < 2139095040 ∧ (∀ neg, Ieee.single.nearest neg m p = if neg then 2147483648 + r else r) ∧
      fv r * 8388608 ≤ m * 2 ^ (p + 149).toNat * 8388609 ∧ m * 2 ^ (p + 149).toNat * 8388607 ≤ fv r * 8388608 := by
  by_cases hm : m = 0
  · subst hm
    refine ⟨0, ?_, by omega, fun neg => ?_, by simp [fv], by simp⟩
    · unfold Ieee.Format.nearest Ieee.Format.word; simp
    · unfold Ieee.Format.nearest Ieee.Format.word; simp [sign_weight]
  obtain ⟨l1, l2⟩ := log2_bd (show 0 < m by omega)
  obtain ⟨E, hE⟩ : ∃ E : Nat, p + 149 = (E : Int) := ⟨(p + 149).toNat, by omega⟩
  have hE2 : (p + 149).toNat = E := by omega
  rw [hE2] at hM ⊢
  have hL : E + m.log2 < 240 := by
    have h1 : 2 ^ (E + m.log2) ≤ m * 2 ^ E := by rw [Nat.pow_add, Nat.mul_comm]; exact Nat.mul_le_mul_right _ l1
    exact (Nat.pow_lt_pow_iff_right (by omega : 1 < 2)).1 (Nat.lt_of_le_of_lt h1 hM)
  clear hM
  generalize hlg : m.log2 = L at *
  have last : ∃ last : Int, max (p + (L : Int) - 23) (-149) = last ∧ ((last = -149 ∧ p + L - 23 ≤ -149) ∨ (last = p + L - 23 ∧ -149 < p + L - 23)) := ⟨_, rfl, by omega⟩
  obtain ⟨last, hlast, hcase⟩ := last
  -- the rung, told by its exponent and what is kept
  have key : ∃ r, r < 2139095040 ∧ (∀ neg, (last - -149).toNat * 8388608 + Ieee.Toward.even.cut neg (m <<< (p - last).toNat) (last - p).toNat = r) ∧ fv r * 8388608 ≤ m * 2 ^ E * 8388609 ∧ m * 2 ^ E * 8388607 ≤ fv r * 8388608 := by
    rcases hcase with ⟨h1, h2⟩ | ⟨h1, h2⟩
    · -- small: all is kept
      rw [show (last - p).toNat = 0 by omega, show (p - last).toNat = E by omega, show (last - -149).toNat = 0 by omega]
      have hlt : m * 2 ^ E < 16777216 := by
        have a : m * 2 ^ E < 2 ^ (L + 1) * 2 ^ E := Nat.mul_lt_mul_of_pos_right l2 (Nat.two_pow_pos E)
        rw [← Nat.pow_add] at a
        have b : 2 ^ (L + 1 + E) ≤ 2 ^ 24 := Nat.pow_le_pow_right (by omega) (by omega)
        have c : (2 : Nat) ^ 24 = 16777216 := by decide
        rw [c] at b
        exact Nat.lt_of_lt_of_le a b
      refine ⟨m * 2 ^ E, Nat.lt_of_lt_of_le hlt (by decide), fun neg => by rw [cut_zero, shiftl, Nat.zero_mul, Nat.zero_add], ?_⟩
      generalize m * 2 ^ E = z at *
      have e : fv z = z := by
        by_cases hz : z < 8388608
        · exact fv_small hz
        · have := fv_of 0 z (by omega) (by omega)
          rw [Nat.zero_mul, Nat.zero_add, Nat.pow_zero, Nat.mul_one] at this
          exact this
      rw [e]
      omega
    · by_cases h23 : L ≤ 23
      · rw [show (last - p).toNat = 0 by omega, show (p - last).toNat = 23 - L by omega, show (last - -149).toNat = E + L - 23 by omega]
        have a1 : 2 ^ L * 2 ^ (23 - L) ≤ m * 2 ^ (23 - L) := Nat.mul_le_mul_right _ l1
        have a2 : m * 2 ^ (23 - L) < 2 ^ (L + 1) * 2 ^ (23 - L) := Nat.mul_lt_mul_of_pos_right l2 (Nat.two_pow_pos _)
        rw [← Nat.pow_add, show L + (23 - L) = 23 by omega] at a1
        rw [← Nat.pow_add, show L + 1 + (23 - L) = 24 by omega] at a2
        have c1 : (2 : Nat) ^ 23 = 8388608 := by decide
        have c2 : (2 : Nat) ^ 24 = 16777216 := by decide
        have e : fv ((E + L - 23) * 8388608 + m * 2 ^ (23 - L)) = m * 2 ^ E := by
          rw [fv_of _ _ (by omega) (by omega), Nat.mul_assoc, ← Nat.pow_add, show 23 - L + (E + L - 23) = E by omega]
        refine ⟨(E + L - 23) * 8388608 + m * 2 ^ (23 - L), by omega, fun neg => by rw [cut_zero, shiftl], ?_⟩
        rw [e]
        omega
      · rw [show (p - last).toNat = 0 by omega, show (last - p).toNat = L - 23 by omega, show (last - -149).toNat = E + L - 23 by omega]
        have hsh : m <<< 0 = m := by rw [shiftl, Nat.pow_zero, Nat.mul_one]
        rw [hsh]
        obtain ⟨k, hk, k1, k2, k3, k4⟩ := cut_bd false m (L - 23) (by omega)
        have hn : ∀ neg, Ieee.Toward.even.cut neg m (L - 23) = k := fun neg => by rw [← hk]; rfl
        have a1 : 2 ^ 23 ≤ m / 2 ^ (L - 23) := by
          rw [Nat.le_div_iff_mul_le (Nat.two_pow_pos _), ← Nat.pow_add, show 23 + (L - 23) = L by omega]
          exact l1
        have a2 : m / 2 ^ (L - 23) < 2 ^ 24 := by
          rw [Nat.div_lt_iff_lt_mul (Nat.two_pow_pos _), ← Nat.pow_add, show 24 + (L - 23) = L + 1 by omega]
          exact l2
        have c1 : (2 : Nat) ^ 23 = 8388608 := by decide
        have c2 : (2 : Nat) ^ 24 = 16777216 := by decide
        have e : fv ((E + L - 23) * 8388608 + k) = k * 2 ^ (L - 23) * 2 ^ E := by
          rw [fv_of _ _ (by omega) (by omega), Nat.mul_assoc, ← Nat.pow_add, show L - 23 + E = E + L - 23 by omega]
        have b1 : 8388608 * 2 ^ (L - 23) ≤ m := by
          have := Nat.mul_le_of_le_div _ _ _ a1
          rwa [c1] at this
        refine ⟨(E + L - 23) * 8388608 + k, by omega, fun neg => by rw [hn], ?_⟩
        rw [e]
        have hP := Nat.two_pow_pos E
        generalize 2 ^ (L - 23) = P at *
        generalize 2 ^ E = Z at *
        refine ⟨?_, ?_⟩
        · have : k * P * 8388608 ≤ m * 8388609 := by omega
          have := Nat.mul_le_mul_right Z this
          rw [show k * P * Z * 8388608 = k * P * 8388608 * Z by rw [Nat.mul_right_comm], show m * Z * 8388609 = m * 8388609 * Z by rw [Nat.mul_right_comm]]
          exact this
        · have : m * 8388607 ≤ k * P * 8388608 := by omega
          have := Nat.mul_le_mul_right Z this
          rw [show k * P * Z * 8388608 = k * P * 8388608 * Z by rw [Nat.mul_right_comm], show m * Z * 8388607 = m * 8388607 * Z by rw [Nat.mul_right_comm]]
          exact this
  obtain ⟨r, hr, hcut, hb1, hb2⟩ := key
  have hnear : ∀ neg, Ieee.single.nearest neg m p = if neg then 2147483648 + r else r := fun neg => by
    unfold Ieee.Format.nearest Ieee.Format.word
    simp only [if_neg hm, inf_rung, sign_weight, binade, least_place, hlg]
    rw [show (Ieee.single.fractionBits : Int) = 23 from rfl, hlast, hcut neg, show min r 2139095040 = r by omega]
  exact ⟨r, by rw [hnear false]; rfl, hr, hnear, hb1, hb2⟩
end Go.Proofs.Ytfimcadnlhohlaa
