/- What a guess in single precision is worth, and that guesses far apart stand as the ratios do. -/
import Derived.Test.YtfimcadnlhohlaaFlDiv
namespace Go.Proofs.Ytfimcadnlhohlaa
open Go.RowKit
set_option linter.unusedVariables false
theorem conv_fin (n : Nat) (h : n ≤ 1000000000) : ∃ x, Ieee.single.nearest false n 0 = x ∧ x < 2139095040 ∧ fv x * 8388608 ≤ n * 2 ^ 149 * 8388609 ∧ n * 2 ^ 149 * 8388607 ≤ fv x * 8388608 := by
  have hM : n * 2 ^ ((0 : Int) + 149).toNat < 2 ^ 240 := by
    rw [show ((0 : Int) + 149).toNat = 149 by rfl]
    have a : n * 2 ^ 149 ≤ 2 ^ 30 * 2 ^ 149 := Nat.mul_le_mul_right _ (Nat.le_trans h (by decide))
    exact Nat.lt_of_le_of_lt a (by decide)
  obtain ⟨r, hr, hf, _, hb1, hb2⟩ := near_fin n 0 (by omega) hM
  rw [show ((0 : Int) + 149).toNat = 149 by rfl] at hb1 hb2
  exact ⟨r, hr, hf, hb1, hb2⟩
/-- the units of one, told by what is needed of them -/
theorem unit_bd : ∃ T : Nat, T = 2 ^ 149 ∧ 0 < T := ⟨_, rfl, Nat.two_pow_pos _⟩
theorem conv_range {n f T : Nat} (hT : T = 2 ^ 149) (hn : n ≤ 1000000000) (h1 : f * 8388608 ≤ n * T * 8388609) (h2 : n * T * 8388607 ≤ f * 8388608) : (n = 0 → f = 0) ∧ (1 ≤ n → T ≤ 2 * f) ∧ f ≤ 2000000000 * T := by
  clear hT
  have a1 : n * T ≤ 1000000000 * T := Nat.mul_le_mul_right _ hn
  refine ⟨fun e => ?_, fun e => ?_, ?_⟩
  · subst e; omega
  · have : 1 * T ≤ n * T := Nat.mul_le_mul_right _ e
    generalize n * T = z at *
    omega
  · generalize n * T = z at *
    omega
theorem range_ok {f T : Nat} (hT : T = 2 ^ 149) (h1 : T ≤ 2 * f) (h2 : f ≤ 2000000000 * T) : 2 ^ (24 + 116) ≤ f ∧ f < 2 ^ (23 + 167) := by
  subst hT
  refine ⟨?_, ?_⟩
  · have : 2 * 2 ^ (24 + 116) ≤ 2 * f := Nat.le_trans (by decide) h1
    exact Nat.le_of_mul_le_mul_left this (by decide)
  · exact Nat.lt_of_le_of_lt h2 (by decide)
theorem chain {a b c p q r s : Nat} (h1 : a * p ≤ b * q) (h2 : b * r ≤ c * s) : a * (p * r) ≤ c * (q * s) := by
  have a1 := Nat.mul_le_mul_right r h1
  have a2 := Nat.mul_le_mul_right q h2
  rw [Nat.mul_right_comm b] at a1
  have a3 := Nat.le_trans a1 a2
  rw [Nat.mul_assoc] at a3
  rw [Nat.mul_comm q, ← Nat.mul_assoc c]
  exact a3
theorem weaken {a c p s t u : Nat} (h : a * p ≤ c * s) (hp : 0 < p) (hk : s * t ≤ p * u) : a * t ≤ c * u := by
  refine Nat.le_of_mul_le_mul_right (c := p) ?_ hp
  have a1 := Nat.mul_le_mul_right t h
  have a2 := Nat.mul_le_mul_left c hk
  rw [Nat.mul_right_comm a, Nat.mul_assoc c] at a1
  refine Nat.le_trans a1 ?_
  rw [Nat.mul_assoc c, Nat.mul_comm u]
  exact a2
theorem up3 {A B C D : Nat} (h1 : A * 8388607 ≤ B * 8388608) (h2 : B * 4194304 ≤ C * 4194305) (h3 : C * 8388608 ≤ D * 8388609) : A * 8388608 ≤ D * 8388613 :=
  weaken (chain h1 (chain h2 h3)) (by decide) (by decide)
theorem low3 {A B C D : Nat} (h1 : D * 8388607 ≤ C * 8388608) (h2 : C * 4194303 ≤ B * 4194304) (h3 : B * 8388608 ≤ A * 8388609) : D * 8388603 ≤ A * 8388608 :=
  weaken (chain h1 (chain h2 h3)) (by decide) (by decide)
theorem cross3 {A B M N : Nat} (h1 : A * 8388608 ≤ N * 8388613) (h2 : M * 8388603 ≤ B * 8388608) (h3 : N ≤ M) : A * 8388603 ≤ B * 8388613 :=
  weaken (chain (Nat.le_trans h1 (Nat.mul_le_mul_right _ h3)) h2) (by decide) (by decide)
theorem guess_fin {n d : Nat} (hn : n ≤ 1000000000) (hd : 1 ≤ d ∧ d ≤ 1000000000) :
    ∃ r, Ieee.single.div (Ieee.single.nearest false n 0) (Ieee.single.nearest false d 0) = some r ∧ r < 2139095040 ∧
      fv r * d * 8388608 ≤ n * 2 ^ 149 * 8388613 ∧ n * 2 ^ 149 * 8388603 ≤ fv r * d * 8388608 := by
  obtain ⟨x, hx, fx, x1, x2⟩ := conv_fin n hn
  obtain ⟨y, hy, fy, y1, y2⟩ := conv_fin d hd.2
  obtain ⟨T, hT, hTp⟩ := unit_bd
  rw [← hT] at x1 x2 y1 y2
  obtain ⟨cx1, cx2, cx3⟩ := conv_range hT hn x1 x2
  obtain ⟨cy1, cy2, cy3⟩ := conv_range hT hd.2 y1 y2
  have ry := range_ok hT (cy2 hd.1) cy3
  have rx : fv x = 0 ∨ (2 ^ (24 + 76) ≤ fv x ∧ fv x < 2 ^ (23 + 167)) := by
    rcases Nat.eq_zero_or_pos n with e | e
    · exact .inl (cx1 e)
    · have := range_ok hT (cx2 e) cx3
      exact .inr ⟨Nat.le_trans (by decide) this.1, this.2⟩
  obtain ⟨r, hr, fr', d1, d2⟩ := div_fin fx fy rx ry
  rw [hx, hy]
  refine ⟨r, hr, fr', ?_⟩
  rw [← hT] at d1 d2 ⊢
  clear rx ry hT cx1 cx2 cx3 cy1 cy2 cy3 hx hy hr
  -- all times the unit
  have a1 := Nat.mul_le_mul_left (fv r) y1
  have a2 := Nat.mul_le_mul_left (fv r) y2
  have b1 := Nat.mul_le_mul_right T x1
  have b2 := Nat.mul_le_mul_right T x2
  rw [show fv r * (fv y * 8388608) = fv r * fv y * 8388608 by rw [Nat.mul_assoc], show fv r * (d * T * 8388609) = fv r * d * T * 8388609 by simp only [Nat.mul_assoc]] at a1
  rw [show fv r * (fv y * 8388608) = fv r * fv y * 8388608 by rw [Nat.mul_assoc], show fv r * (d * T * 8388607) = fv r * d * T * 8388607 by simp only [Nat.mul_assoc]] at a2
  rw [show fv x * 8388608 * T = fv x * T * 8388608 by rw [Nat.mul_right_comm], show n * T * 8388609 * T = n * T * T * 8388609 by rw [Nat.mul_right_comm]] at b1
  rw [show fv x * 8388608 * T = fv x * T * 8388608 by rw [Nat.mul_right_comm], show n * T * 8388607 * T = n * T * T * 8388607 by rw [Nat.mul_right_comm]] at b2
  refine ⟨?_, ?_⟩
  · refine Nat.le_of_mul_le_mul_right (c := T) ?_ hTp
    rw [show fv r * d * 8388608 * T = fv r * d * T * 8388608 by rw [Nat.mul_right_comm], show n * T * 8388613 * T = n * T * T * 8388613 by rw [Nat.mul_right_comm]]
    exact up3 a2 d1 b1
  · refine Nat.le_of_mul_le_mul_right (c := T) ?_ hTp
    rw [show fv r * d * 8388608 * T = fv r * d * T * 8388608 by rw [Nat.mul_right_comm], show n * T * 8388603 * T = n * T * T * 8388603 by rw [Nat.mul_right_comm]]
    exact low3 b2 d2 a1
/-- of two guesses the units stand nearly as the ratios do -/
theorem cross_bd {a b n d m e T : Nat} (hT : 0 < T) (hd : 0 < d) (he : 0 < e) (h1 : a * d * 8388608 ≤ n * T * 8388613) (h2 : m * T * 8388603 ≤ b * e * 8388608) (h3 : n * e ≤ m * d) : a * 8388603 ≤ b * 8388613 := by
  have a1 := Nat.mul_le_mul_right e h1
  have a2 := Nat.mul_le_mul_right d h2
  have a3 := Nat.mul_le_mul_right T h3
  rw [show a * d * 8388608 * e = a * (d * e) * 8388608 by rw [Nat.mul_right_comm, Nat.mul_assoc a], show n * T * 8388613 * e = n * e * T * 8388613 by rw [Nat.mul_right_comm, Nat.mul_right_comm n]] at a1
  rw [show b * e * 8388608 * d = b * (d * e) * 8388608 by rw [Nat.mul_right_comm, Nat.mul_assoc b, Nat.mul_comm e], show m * T * 8388603 * d = m * d * T * 8388603 by rw [Nat.mul_right_comm, Nat.mul_right_comm m]] at a2
  refine Nat.le_of_mul_le_mul_right (c := d * e) ?_ (Nat.mul_pos hd he)
  rw [show a * 8388603 * (d * e) = a * (d * e) * 8388603 by rw [Nat.mul_right_comm], show b * 8388613 * (d * e) = b * (d * e) * 8388613 by rw [Nat.mul_right_comm]]
  exact cross3 a1 a2 a3
/-- guesses that are far apart are in order -/
theorem apart {a b c1 c2 N D : Nat} (hab : b < a) (h9 : a * 8388603 ≤ b * 8388613) (h4 : D * 8388608 ≤ (a - b) * 8388609)
    (hc1 : a * 8388607 ≤ c1 * 8388608 ∨ b * 8388607 ≤ c1 * 8388608) (hc2 : (c1 + b) * 8388607 ≤ c2 * 8388608 ∨ (c1 + a) * 8388607 ≤ c2 * 8388608) (hc : (a * 8388607 ≤ c1 * 8388608 ∧ (c1 + b) * 8388607 ≤ c2 * 8388608) ∨ (b * 8388607 ≤ c1 * 8388608 ∧ (c1 + a) * 8388607 ≤ c2 * 8388608))
    (h7 : c2 * 4194303 ≤ N * 1048576 * 4194304) (h8 : N < D) : False := by
  clear hc1 hc2
  rcases hc with ⟨h5, h6⟩ | ⟨h5, h6⟩ <;> omega
theorem fv_twenty : fv 1233125376 = 1048576 * 2 ^ 149 := by decide +kernel
end Go.Proofs.Ytfimcadnlhohlaa
