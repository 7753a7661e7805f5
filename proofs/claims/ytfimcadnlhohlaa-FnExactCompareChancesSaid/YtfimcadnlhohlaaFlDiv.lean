/- Quotients of words in single precision; numbers made words; what a guess is worth. -/
import Derived.Test.YtfimcadnlhohlaaFlOps
namespace Go.Proofs.Ytfimcadnlhohlaa
open Go.RowKit
set_option linter.unusedVariables false
theorem log_mant {m : Nat} (h1 : 8388608 ≤ m) (h2 : m < 16777216) : m.log2 = 23 := by
  rw [Nat.log2_eq_iff (by omega)]
  exact ⟨by omega, by omega⟩
theorem exp_lt {m E k : Nat} (h1 : 2 ^ 23 ≤ m) (h : m * 2 ^ E < 2 ^ (23 + k)) : E < k := by
  have h2 : 2 ^ 23 * 2 ^ E ≤ m * 2 ^ E := Nat.mul_le_mul_right _ h1
  rw [← Nat.pow_add] at h2
  have := (Nat.pow_lt_pow_iff_right (by omega : 1 < 2)).1 (Nat.lt_of_le_of_lt h2 h)
  omega
theorem exp_gt {m E k : Nat} (h1 : m < 2 ^ 24) (h : 2 ^ (24 + k) ≤ m * 2 ^ E) : k < E := by
  have h2 : m * 2 ^ E < 2 ^ 24 * 2 ^ E := Nat.mul_lt_mul_of_pos_right h1 (Nat.two_pow_pos _)
  rw [← Nat.pow_add] at h2
  have := (Nat.pow_lt_pow_iff_right (by omega : 1 < 2)).1 (Nat.lt_of_le_of_lt h h2)
  omega
/-- the quotient's digits -/
theorem quot_bd (m n : Nat) (hn : 0 < n) (hn2 : n < 16777216) (hm : 8388608 ≤ m) :
    let g := 2 * (m * 33554432 / n) + (m * 33554432 % n != 0).toNat
    g * n * 33554432 ≤ m * 67108864 * 33554433 ∧ m * 67108864 * 33554431 ≤ g * n * 33554432 := by
  intro g
  have hd := Nat.div_add_mod (m * 33554432) n
  have hr := Nat.mod_lt (m * 33554432) hn
  have hg : g = 2 * (m * 33554432 / n) + (m * 33554432 % n != 0).toNat := rfl
  generalize m * 33554432 / n = q at *
  generalize m * 33554432 % n = r at *
  rw [Nat.mul_comm] at hd
  have e : g * n = 2 * (q * n) + (r != 0).toNat * n := by rw [hg, Nat.add_mul, Nat.mul_assoc]
  rw [e]
  generalize q * n = z at *
  by_cases c : r = 0
  · subst c
    simp only [bne_self_eq_false, Bool.toNat_false, Nat.zero_mul]
    omega
  · have : (r != 0) = true := by rw [bne_iff_ne]; exact c
    rw [this]
    simp only [Bool.toNat_true, Nat.one_mul]
    omega
theorem div_fin {x y : Nat} (hx : x < 2139095040) (hy : y < 2139095040) (hx0 : fv x = 0 ∨ (2 ^ (24 + 76) ≤ fv x ∧ fv x < 2 ^ (23 + 167))) (hy0 : 2 ^ (24 + 116) ≤ fv y ∧ fv y < 2 ^ (23 + 167)) :
    ∃ r, Ieee.single.div x y = some r ∧ r < 2139095040 ∧ fv r * fv y * 4194304 ≤ fv x * 2 ^ 149 * 4194305 ∧ fv x * 2 ^ 149 * 4194303 ≤ fv r * fv y * 4194304 := by
  obtain ⟨m, i, h1, h2, h3, h4, h5⟩ := read_fin hx
  obtain ⟨n, j, k1, k2, k3, k4, k5⟩ := read_fin hy
  have c24 : (2 : Nat) ^ 24 = 16777216 := by decide
  have c23 : (2 : Nat) ^ 23 = 8388608 := by decide
  have hyn : 8388608 ≤ y := fv_normal (Nat.le_trans (by decide) hy0.1)
  have hn := k4 hyn
  have hn0 : n ≠ 0 := by omega
  have hfb : Ieee.single.fractionBits + 2 = 25 := rfl
  obtain ⟨J, hJ⟩ : ∃ J : Nat, j + 149 = (J : Int) := ⟨(j + 149).toNat, by omega⟩
  have hJ2 : (j + 149).toNat = J := by omega
  rw [hJ2] at k3
  have J1 : J < 167 := exp_lt (by rw [c23]; exact hn) (by rw [k3]; exact hy0.2)
  have J2 : 116 < J := exp_gt (by rw [c24]; exact k5) (by rw [k3]; exact hy0.1)
  unfold Ieee.Format.div
  rw [h1, k1]
  simp only [Ieee.Datum.quotient, if_neg hn0, Option.map_some, write_num, hfb, Bool.xor_self]
  rcases hx0 with hz | ⟨hxl, hxu⟩
  · have hm : m = 0 := by
      rcases Nat.eq_zero_or_pos m with e | e
      · exact e
      · have := Nat.mul_pos e (Nat.two_pow_pos (i + 149).toNat)
        omega
    subst hm
    rw [shiftl, Nat.zero_mul, Nat.zero_div, Nat.zero_mod, hz]
    refine ⟨_, rfl, ?_⟩
    have e : ∀ p, Ieee.single.nearest false (2 * 0 + ((0 : Nat) != 0).toNat) p = 0 := fun p => by unfold Ieee.Format.nearest Ieee.Format.word; simp
    rw [e]
    simp [fv]
  · have hxn : 8388608 ≤ x := fv_normal (Nat.le_trans (by decide) hxl)
    have hm := h4 hxn
    obtain ⟨I, hI⟩ : ∃ I : Nat, i + 149 = (I : Int) := ⟨(i + 149).toNat, by omega⟩
    have hI2 : (i + 149).toNat = I := by omega
    rw [hI2] at h3
    have I1 : I < 167 := exp_lt (by rw [c23]; exact hm) (by rw [h3]; exact hxu)
    have I2 : 76 < I := exp_gt (by rw [c24]; exact h5) (by rw [h3]; exact hxl)
    rw [log_mant hm h5, log_mant hn k5, shiftl, show 25 + 23 - 23 = 25 by rfl, show (2 : Nat) ^ 25 = 33554432 by decide, show i - j - ((25 : Nat) : Int) - 1 = (I : Int) - J - 26 by omega]
    have hq := quot_bd m n (by omega) k5 hm
    simp only at hq
    generalize 2 * (m * 33554432 / n) + (m * 33554432 % n != 0).toNat = g at *
    have hE : ((I : Int) - J - 26 + 149).toNat = I + 123 - J := by omega
    have hg : g < 2 ^ 28 := by
      have a1 : g * 8388608 ≤ g * n := Nat.mul_le_mul_left _ hn
      have c28 : (2 : Nat) ^ 28 = 268435456 := by decide
      rw [c28]
      omega
    obtain ⟨r, hr, hf, _, hb1, hb2⟩ := near_fin g ((I : Int) - J - 26) (by omega) (by
      rw [hE]
      have a1 : g * 2 ^ (I + 123 - J) < 2 ^ 28 * 2 ^ (I + 123 - J) := Nat.mul_lt_mul_of_pos_right hg (Nat.two_pow_pos _)
      rw [← Nat.pow_add] at a1
      exact Nat.lt_of_lt_of_le a1 (Nat.pow_le_pow_right (by omega) (by omega)))
    rw [hE] at hb1 hb2
    refine ⟨r, by rw [hr], hf, ?_⟩
    -- all over one power of two
    have e1 : g * 2 ^ (I + 123 - J) * fv y = g * n * 2 ^ (I + 123) := by
      rw [← k3, show g * 2 ^ (I + 123 - J) * (n * 2 ^ J) = g * n * (2 ^ (I + 123 - J) * 2 ^ J) by rw [Nat.mul_mul_mul_comm], ← Nat.pow_add, show I + 123 - J + J = I + 123 by omega]
    have e2 : fv x * 2 ^ 149 = m * 67108864 * 2 ^ (I + 123) := by
      rw [← h3, show (67108864 : Nat) = 2 ^ 26 by decide, Nat.mul_assoc, Nat.mul_assoc, ← Nat.pow_add, ← Nat.pow_add, show I + 149 = 26 + (I + 123) by omega]
    rw [e2]
    have f1 := Nat.mul_le_mul_right (fv y) hb1
    have f2 := Nat.mul_le_mul_right (fv y) hb2
    have f3 := Nat.mul_le_mul_right (2 ^ (I + 123)) hq.1
    have f4 := Nat.mul_le_mul_right (2 ^ (I + 123)) hq.2
    rw [show fv r * 8388608 * fv y = fv r * fv y * 8388608 by rw [Nat.mul_right_comm], show g * 2 ^ (I + 123 - J) * 8388609 * fv y = g * 2 ^ (I + 123 - J) * fv y * 8388609 by rw [Nat.mul_right_comm], e1] at f1
    rw [show fv r * 8388608 * fv y = fv r * fv y * 8388608 by rw [Nat.mul_right_comm], show g * 2 ^ (I + 123 - J) * 8388607 * fv y = g * 2 ^ (I + 123 - J) * fv y * 8388607 by rw [Nat.mul_right_comm], e1] at f2
    rw [show g * n * 33554432 * 2 ^ (I + 123) = g * n * 2 ^ (I + 123) * 33554432 by rw [Nat.mul_right_comm], show m * 67108864 * 33554433 * 2 ^ (I + 123) = m * 67108864 * 2 ^ (I + 123) * 33554433 by rw [Nat.mul_right_comm]] at f3
    rw [show g * n * 33554432 * 2 ^ (I + 123) = g * n * 2 ^ (I + 123) * 33554432 by rw [Nat.mul_right_comm], show m * 67108864 * 33554431 * 2 ^ (I + 123) = m * 67108864 * 2 ^ (I + 123) * 33554431 by rw [Nat.mul_right_comm]] at f4
    clear hb1 hb2 hq e1 e2 hxl hxu hy0 h3 k3
    generalize fv r * fv y = A at *
    generalize g * n * 2 ^ (I + 123) = B at *
    generalize m * 67108864 * 2 ^ (I + 123) = C at *
    omega
end Go.Proofs.Ytfimcadnlhohlaa
