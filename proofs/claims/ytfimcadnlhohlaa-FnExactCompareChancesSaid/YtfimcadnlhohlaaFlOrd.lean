/- Two guesses, their sum, their differences: what the program finds, and that it is so of the ratios. -/
import Derived.Test.YtfimcadnlhohlaaFlGuess
namespace Go.Proofs.Ytfimcadnlhohlaa
open Go.RowKit
set_option linter.unusedVariables false
theorem guess_range {n d f T : Nat} (hT : 0 < T) (hn : n ≤ 1000000000) (hd : 1 ≤ d ∧ d ≤ 1000000000) (h1 : f * d * 8388608 ≤ n * T * 8388613) (h2 : n * T * 8388603 ≤ f * d * 8388608) : (n = 0 → f = 0) ∧ (1 ≤ n → T ≤ 2000000000 * f) ∧ f ≤ 2000000000 * T := by
  have a1 : f * 1 ≤ f * d := Nat.mul_le_mul_left _ hd.1
  have a2 : f * d ≤ f * 1000000000 := Nat.mul_le_mul_left _ hd.2
  have a3 : n * T ≤ 1000000000 * T := Nat.mul_le_mul_right _ hn
  refine ⟨fun e => ?_, fun e => ?_, ?_⟩
  · subst e
    omega
  · have a4 : 1 * T ≤ n * T := Nat.mul_le_mul_right _ e
    generalize n * T = z at *
    generalize f * d = y at *
    omega
  · generalize n * T = z at *
    generalize f * d = y at *
    omega
theorem sum_range {a b c1 c2 T : Nat} (h1 : c1 * 8388608 ≤ (0 + a) * 8388609) (h2 : (0 + a) * 8388607 ≤ c1 * 8388608) (h3 : c2 * 8388608 ≤ (c1 + b) * 8388609) (h4 : (c1 + b) * 8388607 ≤ c2 * 8388608) (ha : a ≤ 2000000000 * T) (hb : b ≤ 2000000000 * T) :
    (a = 0 → b = 0 → c2 = 0) ∧ (T ≤ 2000000000 * a ∨ T ≤ 2000000000 * b → T ≤ 8000000000 * c2) ∧ c2 ≤ 16000000000 * T ∧ c1 ≤ 4000000000 * T := by
  refine ⟨fun e1 e2 => by omega, fun e => by omega, by omega, by omega⟩
theorem sum_ok {c T : Nat} (hT : T = 2 ^ 149) (h1 : T ≤ 8000000000 * c) (h2 : c ≤ 16000000000 * T) : 2 ^ (24 + 76) ≤ c ∧ c < 2 ^ (23 + 167) := by
  subst hT
  refine ⟨?_, ?_⟩
  · have : 8000000000 * 2 ^ (24 + 76) ≤ 8000000000 * c := Nat.le_trans (by decide) h1
    exact Nat.le_of_mul_le_mul_left this (by decide)
  · exact Nat.lt_of_le_of_lt h2 (by decide)
theorem small_240 {x T : Nat} (hT : T = 2 ^ 149) (h : x ≤ 16000000000 * T) : x < 2 ^ 240 := by
  subst hT
  exact Nat.lt_of_le_of_lt h (by decide)
theorem fv_zero {w : Nat} (h : fv w = 0) : w = 0 := by
  rcases Nat.lt_or_ge w 8388608 with h1 | h1
  · rwa [fv_small h1] at h
  · unfold fv at h
    rw [if_neg (by omega)] at h
    have := Nat.mul_pos (show 0 < 8388608 + w % 8388608 by omega) (Nat.two_pow_pos (w / 8388608 - 1))
    omega
/-- the greater of both differences -/
def MaxOf (p q mx : Nat) : Prop := (Ieee.single.order p q = some .gt ∧ mx = p) ∨ (Ieee.single.order p q = some .lt ∧ mx = q) ∨ (Ieee.single.order p q = some .eq ∧ p = 0 ∧ q = 0 ∧ mx = 0)
structure Guessed (n d m e f s c1 c2 N p q mx : Nat) : Prop where
  gf : Ieee.single.div (Ieee.single.nearest false n 0) (Ieee.single.nearest false d 0) = some f
  gs : Ieee.single.div (Ieee.single.nearest false m 0) (Ieee.single.nearest false e 0) = some s
  a1 : Ieee.single.add 0 f = some c1
  a2 : Ieee.single.add c1 s = some c2
  dv : Ieee.single.div c2 1233125376 = some N
  sp : Ieee.single.sub f s = some p
  sq : Ieee.single.sub s f = some q
  mxo : MaxOf p q mx
  ff : Ieee.single.order f f = some .eq
  ss : Ieee.single.order s s = some .eq
  ord : (Ieee.single.order mx N = some .lt ∨ Ieee.single.order mx N = some .eq) ∨ (Ieee.single.order mx N = some .gt ∧ ((Ieee.single.order f s = some .gt ∧ m * d < n * e) ∨ (Ieee.single.order f s = some .lt ∧ n * e < m * d)))
theorem guessed {n d m e : Nat} (hn : n ≤ 1000000000) (hd : 1 ≤ d ∧ d ≤ 1000000000) (hm : m ≤ 1000000000) (he : 1 ≤ e ∧ e ≤ 1000000000) : ∃ f s c1 c2 N p q mx, Guessed n d m e f s c1 c2 N p q mx := by
  obtain ⟨f, gf, ff, f1, f2⟩ := guess_fin hn hd
  obtain ⟨s, gs, fs, s1, s2⟩ := guess_fin hm he
  obtain ⟨T, hT, hTp⟩ := unit_bd
  rw [← hT] at f1 f2 s1 s2
  obtain ⟨rf0, rf1, rf2⟩ := guess_range hTp hn hd f1 f2
  obtain ⟨rs0, rs1, rs2⟩ := guess_range hTp hm he s1 s2
  have hz : fv 0 = 0 := by simp [fv]
  obtain ⟨c1, a1, fc1, c1u, c1l⟩ := add_fin (x := 0) (y := f) (by omega) ff (by rw [hz, Nat.zero_add]; exact small_240 hT (by omega))
  rw [hz] at c1u c1l
  have hc1 : fv c1 ≤ 4000000000 * T := by omega
  obtain ⟨c2, a2, fc2, c2u, c2l⟩ := add_fin (x := c1) (y := s) fc1 fs (small_240 hT (by omega))
  obtain ⟨r0, r1, r2, _⟩ := sum_range c1u c1l c2u c2l rf2 rs2
  have rc : fv c2 = 0 ∨ (2 ^ (24 + 76) ≤ fv c2 ∧ fv c2 < 2 ^ (23 + 167)) := by
    rcases Nat.eq_zero_or_pos n with e1 | e1
    · rcases Nat.eq_zero_or_pos m with e2 | e2
      · exact .inl (r0 (rf0 e1) (rs0 e2))
      · exact .inr (sum_ok hT (r1 (.inr (rs1 e2))) r2)
    · exact .inr (sum_ok hT (r1 (.inl (rf1 e1))) r2)
  obtain ⟨N, dv, fN, _, N2⟩ := div_fin (x := c2) (y := 1233125376) fc2 (by omega) rc (by rw [fv_twenty]; exact ⟨by decide, by decide⟩)
  have h7 : fv c2 * 4194303 ≤ fv N * 1048576 * 4194304 := by
    rw [fv_twenty, ← hT, ← Nat.mul_assoc (fv N), Nat.mul_right_comm (fv c2), Nat.mul_right_comm (fv N * 1048576)] at N2
    exact Nat.le_of_mul_le_mul_right N2 hTp
  have hff := order_fin ff ff
  rw [if_neg (Nat.lt_irrefl _), if_pos rfl] at hff
  have hss := order_fin fs fs
  rw [if_neg (Nat.lt_irrefl _), if_pos rfl] at hss
  have hfs := order_fin ff fs
  rcases Nat.lt_trichotomy (fv f) (fv s) with hlt | heq | hgt
  · obtain ⟨q, sq, fq, q1, q2, hneg⟩ := sub_fin fs ff (Nat.le_of_lt hlt) (small_240 hT (by omega))
    have sp := hneg hlt
    have hqp : 0 < fv q := by omega
    have hon := order_neg fq hqp
    have hmo := order_fin fq fN
    rw [if_pos hlt] at hfs
    refine ⟨f, s, c1, c2, N, 2147483648 + q, q, q, gf, gs, a1, a2, dv, sp, sq, .inr (.inl ⟨hon.2, rfl⟩), hff, hss, ?_⟩
    by_cases c : fv q < fv N
    · rw [if_pos c] at hmo; exact .inl (.inl hmo)
    · rw [if_neg c] at hmo
      by_cases c' : fv q = fv N
      · rw [if_pos c'] at hmo; exact .inl (.inr hmo)
      · rw [if_neg c'] at hmo
        refine .inr ⟨hmo, .inr ⟨hfs, ?_⟩⟩
        refine Nat.lt_of_not_le fun h3 => ?_
        have h9 := cross_bd hTp (by omega) (by omega) s1 f2 h3
        rw [Nat.zero_add] at c1l
        exact apart hlt h9 q1 (.inr c1l) (.inr c2l) (.inr ⟨c1l, c2l⟩) h7 (by omega)
  · obtain ⟨p, sp, fp, p1, p2, _⟩ := sub_fin ff fs (Nat.le_of_eq heq.symm) (small_240 hT (by omega))
    obtain ⟨q, sq, fq, q1, q2, _⟩ := sub_fin fs ff (Nat.le_of_eq heq) (small_240 hT (by omega))
    obtain rfl := fv_zero (show fv p = 0 by omega)
    obtain rfl := fv_zero (show fv q = 0 by omega)
    have ho := order_fin fp fp
    rw [if_neg (Nat.lt_irrefl _), if_pos rfl] at ho
    have hmo := order_fin fp fN
    refine ⟨f, s, c1, c2, N, 0, 0, 0, gf, gs, a1, a2, dv, sp, sq, .inr (.inr ⟨ho, rfl, rfl, rfl⟩), hff, hss, ?_⟩
    by_cases c : fv 0 < fv N
    · rw [if_pos c] at hmo; exact .inl (.inl hmo)
    · rw [if_neg c, if_pos (by omega)] at hmo; exact .inl (.inr hmo)
  · obtain ⟨p, sp, fp, p1, p2, hneg⟩ := sub_fin ff fs (Nat.le_of_lt hgt) (small_240 hT (by omega))
    have sq := hneg hgt
    have hpp : 0 < fv p := by omega
    have hon := order_neg fp hpp
    have hmo := order_fin fp fN
    rw [if_neg (by omega), if_neg (by omega)] at hfs
    refine ⟨f, s, c1, c2, N, p, 2147483648 + p, p, gf, gs, a1, a2, dv, sp, sq, .inl ⟨hon.1, rfl⟩, hff, hss, ?_⟩
    by_cases c : fv p < fv N
    · rw [if_pos c] at hmo; exact .inl (.inl hmo)
    · rw [if_neg c] at hmo
      by_cases c' : fv p = fv N
      · rw [if_pos c'] at hmo; exact .inl (.inr hmo)
      · rw [if_neg c'] at hmo
        refine .inr ⟨hmo, .inl ⟨hfs, ?_⟩⟩
        refine Nat.lt_of_not_le fun h3 => ?_
        have h9 := cross_bd hTp (by omega) (by omega) f1 s2 h3
        rw [Nat.zero_add] at c1l
        exact apart hgt h9 p1 (.inl c1l) (.inl c2l) (.inl ⟨c1l, c2l⟩) h7 (by omega)
end Go.Proofs.Ytfimcadnlhohlaa
