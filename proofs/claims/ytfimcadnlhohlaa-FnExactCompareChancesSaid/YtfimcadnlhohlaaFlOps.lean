/- Sums, differences, quotients and comparisons of words in single precision, told by their units. -/
import Derived.Test.YtfimcadnlhohlaaFlMath
namespace Go.Proofs.Ytfimcadnlhohlaa
open Go.RowKit
set_option linter.unusedVariables false
theorem pow_part {a b : Int} (ha : -149 ≤ a) (hb : a ≤ b) : (b + 149).toNat = (b - a).toNat + (a + 149).toNat := by omega
theorem scale_eq (m : Nat) {a b : Int} (ha : -149 ≤ a) (hb : a ≤ b) : m * 2 ^ (b - a).toNat * 2 ^ (a + 149).toNat = m * 2 ^ (b + 149).toNat := by
  rw [Nat.mul_assoc, ← Nat.pow_add, pow_part ha hb]
theorem signed_false (m k : Nat) : Ieee.signed false m k = ((m * 2 ^ k : Nat) : Int) := by
  unfold Ieee.signed
  rw [if_neg (by simp), shiftl]
theorem signed_true (m k : Nat) : Ieee.signed true m k = -((m * 2 ^ k : Nat) : Int) := by
  unfold Ieee.signed
  rw [if_pos rfl, shiftl]
theorem write_num (neg : Bool) (m : Nat) (p : Int) : Ieee.single.write (.number neg m p) = Ieee.single.nearest neg m p := rfl
/-- a sum -/
theorem add_fin {x y : Nat} (hx : x < 2139095040) (hy : y < 2139095040) (hM : fv x + fv y < 2 ^ 240) :
    ∃ r, Ieee.single.add x y = some r ∧ r < 2139095040 ∧ fv r * 8388608 ≤ (fv x + fv y) * 8388609 ∧ (fv x + fv y) * 8388607 ≤ fv r * 8388608 := by
  obtain ⟨m, i, h1, h2, h3, _, _⟩ := read_fin hx
  obtain ⟨n, j, k1, k2, k3, _, _⟩ := read_fin hy
  obtain ⟨b, hb, b1, b2, b3⟩ : ∃ b : Int, min i j = b ∧ -149 ≤ b ∧ b ≤ i ∧ b ≤ j := ⟨_, rfl, by omega, by omega, by omega⟩
  have e1 := scale_eq m b1 b2
  have e2 := scale_eq n b1 b3
  rw [h3] at e1
  rw [k3] at e2
  have hT : (m * 2 ^ (i - b).toNat + n * 2 ^ (j - b).toNat) * 2 ^ (b + 149).toNat = fv x + fv y := by rw [Nat.add_mul, e1, e2]
  obtain ⟨r, hr, hf, _, hb1, hb2⟩ := near_fin (m * 2 ^ (i - b).toNat + n * 2 ^ (j - b).toNat) b b1 (by rw [hT]; exact hM)
  rw [hT] at hb1 hb2
  refine ⟨r, ?_, hf, hb1, hb2⟩
  unfold Ieee.Format.add
  rw [h1, k1]
  simp only [Ieee.Datum.sum, hb, signed_false, Option.map_some]
  congr 1
  rw [← hr]
  generalize m * 2 ^ (i - b).toNat = A at *
  generalize n * 2 ^ (j - b).toNat = B at *
  rw [write_num, show ((A : Int) + (B : Int)).natAbs = A + B by omega]
  rw [show (if (A : Int) + (B : Int) = 0 then false && false else decide ((A : Int) + (B : Int) < 0)) = false by split; rfl; exact decide_eq_false (by omega)]
/-- a difference, and the other way round -/
theorem sub_fin {x y : Nat} (hx : x < 2139095040) (hy : y < 2139095040) (hle : fv y ≤ fv x) (hM : fv x < 2 ^ 240) :
    ∃ r, Ieee.single.sub x y = some r ∧ r < 2139095040 ∧ fv r * 8388608 ≤ (fv x - fv y) * 8388609 ∧ (fv x - fv y) * 8388607 ≤ fv r * 8388608 ∧ (fv y < fv x → Ieee.single.sub y x = some (2147483648 + r)) := by
  obtain ⟨m, i, h1, h2, h3, _, _⟩ := read_fin hx
  obtain ⟨n, j, k1, k2, k3, _, _⟩ := read_fin hy
  obtain ⟨b, hb, b1, b2, b3⟩ : ∃ b : Int, min i j = b ∧ -149 ≤ b ∧ b ≤ i ∧ b ≤ j := ⟨_, rfl, by omega, by omega, by omega⟩
  have hb' : min j i = b := by omega
  have e1 := scale_eq m b1 b2
  have e2 := scale_eq n b1 b3
  rw [h3] at e1
  rw [k3] at e2
  have hP := Nat.two_pow_pos (b + 149).toNat
  have hT : (m * 2 ^ (i - b).toNat - n * 2 ^ (j - b).toNat) * 2 ^ (b + 149).toNat = fv x - fv y := by rw [Nat.sub_mul, e1, e2]
  have hAB : n * 2 ^ (j - b).toNat ≤ m * 2 ^ (i - b).toNat := by
    refine Nat.le_of_mul_le_mul_right ?_ hP
    rw [e1, e2]
    exact hle
  have hABl : fv y < fv x → n * 2 ^ (j - b).toNat < m * 2 ^ (i - b).toNat := fun h => by
    refine Nat.lt_of_mul_lt_mul_right (a := 2 ^ (b + 149).toNat) ?_
    rw [e1, e2]
    exact h
  obtain ⟨r, hr, hf, hn, hb1, hb2⟩ := near_fin (m * 2 ^ (i - b).toNat - n * 2 ^ (j - b).toNat) b b1 (by rw [hT]; exact Nat.lt_of_le_of_lt (Nat.sub_le _ _) hM)
  rw [hT] at hb1 hb2
  refine ⟨r, ?_, hf, hb1, hb2, fun hlt => ?_⟩
  · unfold Ieee.Format.sub
    rw [h1, k1]
    simp only [Ieee.Datum.opposite, Ieee.Datum.sum, hb, signed_false, Bool.not_false, signed_true, Option.map_some]
    congr 1
    rw [← hr]
    generalize m * 2 ^ (i - b).toNat = A at *
    generalize n * 2 ^ (j - b).toNat = B at *
    rw [write_num, show ((A : Int) + -(B : Int)).natAbs = A - B by omega]
    rw [show (if (A : Int) + -(B : Int) = 0 then false && true else decide ((A : Int) + -(B : Int) < 0)) = false by split; rfl; exact decide_eq_false (by omega)]
  · have hl2 := hABl hlt
    unfold Ieee.Format.sub
    rw [h1, k1]
    simp only [Ieee.Datum.opposite, Ieee.Datum.sum, hb', signed_false, Bool.not_false, signed_true, Option.map_some]
    congr 1
    have hn1 := hn true
    rw [if_pos rfl] at hn1
    rw [← hn1]
    generalize m * 2 ^ (i - b).toNat = A at *
    generalize n * 2 ^ (j - b).toNat = B at *
    rw [write_num, show ((B : Int) + -(A : Int)).natAbs = A - B by omega]
    rw [show (if (B : Int) + -(A : Int) = 0 then false && true else decide ((B : Int) + -(A : Int) < 0)) = true by rw [if_neg (by omega)]; exact decide_eq_true (by omega)]
/-- comparisons -/
theorem order_fin {x y : Nat} (hx : x < 2139095040) (hy : y < 2139095040) : Ieee.single.order x y = some (if fv x < fv y then .lt else if fv x = fv y then .eq else .gt) := by
  obtain ⟨m, i, h1, h2, h3, _, _⟩ := read_fin hx
  obtain ⟨n, j, k1, k2, k3, _, _⟩ := read_fin hy
  obtain ⟨b, hb, b1, b2, b3⟩ : ∃ b : Int, min i j = b ∧ -149 ≤ b ∧ b ≤ i ∧ b ≤ j := ⟨_, rfl, by omega, by omega, by omega⟩
  have e1 := scale_eq m b1 b2
  have e2 := scale_eq n b1 b3
  rw [h3] at e1
  rw [k3] at e2
  have hP := Nat.two_pow_pos (b + 149).toNat
  unfold Ieee.Format.order
  rw [h1, k1]
  simp only [Ieee.Datum.order, hb, signed_false]
  congr 1
  rw [← e1, ← e2]
  generalize m * 2 ^ (i - b).toNat = A at *
  generalize n * 2 ^ (j - b).toNat = B at *
  generalize 2 ^ (b + 149).toNat = P at *
  have c1 : (A * P < B * P) ↔ A < B := ⟨fun h => Nat.lt_of_mul_lt_mul_right h, fun h => Nat.mul_lt_mul_of_pos_right h hP⟩
  have c2 : (A * P = B * P) ↔ A = B := ⟨fun h => Nat.eq_of_mul_eq_mul_right hP h, fun h => by rw [h]⟩
  simp only [compare, compareOfLessAndEq, c1, c2]
  by_cases q1 : A < B
  · rw [if_pos q1, if_pos (by omega)]
  · rw [if_neg q1, if_neg (by omega)]
    by_cases q2 : A = B
    · rw [if_pos q2, if_pos (by omega)]
    · rw [if_neg q2, if_neg (by omega)]
/-- against the other sign -/
theorem read_neg {r : Nat} (h : r < 2139095040) {m : Nat} {p : Int} (hr : Ieee.single.read r = .number false m p) : Ieee.single.read (2147483648 + r) = .number true m p := by
  unfold Ieee.Format.read at hr ⊢
  simp only [inf_rung, sign_weight, binade, least_place] at hr ⊢
  have h1 : r / 2147483648 % 2 = 0 := by omega
  have h2 : r % 2147483648 = r := by omega
  have h3 : (2147483648 + r) / 2147483648 % 2 = 1 := by omega
  have h4 : (2147483648 + r) % 2147483648 = r := by omega
  rw [h1, h2] at hr
  rw [h3, h4]
  by_cases c : r < 8388608
  · rw [if_pos c] at hr ⊢
    injection hr with _ e1 e2
    rw [e1, e2]
    rfl
  · rw [if_neg c, if_pos h] at hr ⊢
    injection hr with _ e1 e2
    rw [e1, e2]
    rfl
theorem order_neg {r : Nat} (h : r < 2139095040) (hp : 0 < fv r) : Ieee.single.order r (2147483648 + r) = some .gt ∧ Ieee.single.order (2147483648 + r) r = some .lt := by
  obtain ⟨m, p, h1, h2, h3, _, _⟩ := read_fin h
  have hn := read_neg h h1
  have hm : 0 < m := by
    rcases Nat.eq_zero_or_pos m with e | e
    · rw [e, Nat.zero_mul] at h3; omega
    · exact e
  unfold Ieee.Format.order
  rw [h1, hn]
  simp only [Ieee.Datum.order, signed_false, signed_true, Int.min_self, Int.sub_self]
  simp only [Int.toNat_zero, Nat.pow_zero, Nat.mul_one]
  refine ⟨?_, ?_⟩
  · simp only [compare, compareOfLessAndEq]
    rw [if_neg (by omega), if_neg (by omega)]
  · simp only [compare, compareOfLessAndEq]
    rw [if_pos (by omega)]
end Go.Proofs.Ytfimcadnlhohlaa
