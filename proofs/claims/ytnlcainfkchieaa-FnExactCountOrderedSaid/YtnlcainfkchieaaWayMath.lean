/- Ways on from a standing to a result: plain numbers. -/
import Derived.Test.YtnlcainfkchieaaMath
namespace Go.Proofs.Ytnlcainfkchieaa
set_option linter.unusedVariables false
/-- in how many ways n votes that overtake nowhere lead from p q r s to a b c d -/
def wy (a b c d : Nat) : Nat → Nat → Nat → Nat → Nat → Nat
  | 0, p, q, r, s => if p = a ∧ q = b ∧ r = c ∧ s = d then 1 else 0
  | n + 1, p, q, r, s => wy a b c d n (p + 1) q r s + (if q < p then wy a b c d n p (q + 1) r s else 0) + (if r < q then wy a b c d n p q (r + 1) s else 0) + (if s < r then wy a b c d n p q r (s + 1) else 0)
theorem wy_big {a b c d : Nat} : ∀ (n p q r s : Nat), (a < p ∨ b < q ∨ c < r ∨ d < s) → wy a b c d n p q r s = 0
  | 0, p, q, r, s, h => by rw [wy, if_neg (by omega)]
  | n + 1, p, q, r, s, h => by
    rw [wy, wy_big n (p + 1) q r s (by omega), wy_big n p (q + 1) r s (by omega), wy_big n p q (r + 1) s (by omega), wy_big n p q r (s + 1) (by omega)]
    simp
theorem wy_le {a b c d : Nat} : ∀ (n p q r s : Nat), wy a b c d n p q r s ≤ 4 ^ n
  | 0, p, q, r, s => by rw [wy]; split <;> simp
  | n + 1, p, q, r, s => by
    have h1 := wy_le (a := a) (b := b) (c := c) (d := d) n (p + 1) q r s
    have h2 := wy_le (a := a) (b := b) (c := c) (d := d) n p (q + 1) r s
    have h3 := wy_le (a := a) (b := b) (c := c) (d := d) n p q (r + 1) s
    have h4 := wy_le (a := a) (b := b) (c := c) (d := d) n p q r (s + 1)
    rw [wy, Nat.pow_succ]
    generalize 4 ^ n = z at *
    split <;> split <;> split <;> omega
theorem if_iff {p q : Prop} [Decidable p] [Decidable q] {x y : Nat} (h : p ↔ q) : (if p then x else y) = if q then x else y := by
  by_cases hp : p
  · rw [if_pos hp, if_pos (h.1 hp)]
  · rw [if_neg hp, if_neg (fun hq => hp (h.2 hq))]
theorem if_if {p q : Prop} [Decidable p] [Decidable q] : (if p then (if q then 1 else 0) else 0) = if p ∧ q then 1 else 0 := by
  by_cases hp : p <;> by_cases hq : q <;> simp [hp, hq]
theorem wy_one {a b c d : Nat} (p q r s : Nat) (h1 : b ≤ a) (h2 : c ≤ b) (h3 : d ≤ c) (g1 : q ≤ p) (g2 : r ≤ q) (g3 : s ≤ r) :
    wy a b c d 1 p q r s = (if b < a then wy (a - 1) b c d 0 p q r s else 0) + (if c < b then wy a (b - 1) c d 0 p q r s else 0) + (if d < c then wy a b (c - 1) d 0 p q r s else 0) + (if 0 < d then wy a b c (d - 1) 0 p q r s else 0) := by
  simp only [wy, if_if]
  congr 1
  · congr 1
    · congr 1
      · exact if_iff (by omega)
      · exact if_iff (by omega)
    · exact if_iff (by omega)
  · exact if_iff (by omega)
theorem wy_back (n : Nat) : ∀ {a b c d : Nat} (p q r s : Nat) (h1 : b ≤ a) (h2 : c ≤ b) (h3 : d ≤ c) (g1 : q ≤ p) (g2 : r ≤ q) (g3 : s ≤ r),
    wy a b c d (n + 1) p q r s = (if b < a then wy (a - 1) b c d n p q r s else 0) + (if c < b then wy a (b - 1) c d n p q r s else 0) + (if d < c then wy a b (c - 1) d n p q r s else 0) + (if 0 < d then wy a b c (d - 1) n p q r s else 0) := by
  induction n with
  | zero => intro a b c d p q r s h1 h2 h3 g1 g2 g3; exact wy_one p q r s h1 h2 h3 g1 g2 g3
  | succ n ih =>
    intro a b c d p q r s h1 h2 h3 g1 g2 g3
    rw [wy, ih (p + 1) q r s h1 h2 h3 (by omega) g2 g3]
    have k1 : (if q < p then wy a b c d (n + 1) p (q + 1) r s else 0) = if q < p then ((if b < a then wy (a - 1) b c d n p (q + 1) r s else 0) + (if c < b then wy a (b - 1) c d n p (q + 1) r s else 0) + (if d < c then wy a b (c - 1) d n p (q + 1) r s else 0) + (if 0 < d then wy a b c (d - 1) n p (q + 1) r s else 0)) else 0 := by
      by_cases h : q < p
      · rw [if_pos h, if_pos h, ih p (q + 1) r s h1 h2 h3 (by omega) (by omega) g3]
      · rw [if_neg h, if_neg h]
    have k2 : (if r < q then wy a b c d (n + 1) p q (r + 1) s else 0) = if r < q then ((if b < a then wy (a - 1) b c d n p q (r + 1) s else 0) + (if c < b then wy a (b - 1) c d n p q (r + 1) s else 0) + (if d < c then wy a b (c - 1) d n p q (r + 1) s else 0) + (if 0 < d then wy a b c (d - 1) n p q (r + 1) s else 0)) else 0 := by
      by_cases h : r < q
      · rw [if_pos h, if_pos h, ih p q (r + 1) s h1 h2 h3 g1 (by omega) (by omega)]
      · rw [if_neg h, if_neg h]
    have k3 : (if s < r then wy a b c d (n + 1) p q r (s + 1) else 0) = if s < r then ((if b < a then wy (a - 1) b c d n p q r (s + 1) else 0) + (if c < b then wy a (b - 1) c d n p q r (s + 1) else 0) + (if d < c then wy a b (c - 1) d n p q r (s + 1) else 0) + (if 0 < d then wy a b c (d - 1) n p q r (s + 1) else 0)) else 0 := by
      by_cases h : s < r
      · rw [if_pos h, if_pos h, ih p q r (s + 1) h1 h2 h3 g1 g2 (by omega)]
      · rw [if_neg h, if_neg h]
    rw [k1, k2, k3]
    clear k1 k2 k3 ih
    simp only [wy]
    generalize wy (a - 1) b c d n (p + 1) q r s = x00
    generalize wy (a - 1) b c d n p (q + 1) r s = x01
    generalize wy (a - 1) b c d n p q (r + 1) s = x02
    generalize wy (a - 1) b c d n p q r (s + 1) = x03
    generalize wy a (b - 1) c d n (p + 1) q r s = x10
    generalize wy a (b - 1) c d n p (q + 1) r s = x11
    generalize wy a (b - 1) c d n p q (r + 1) s = x12
    generalize wy a (b - 1) c d n p q r (s + 1) = x13
    generalize wy a b (c - 1) d n (p + 1) q r s = x20
    generalize wy a b (c - 1) d n p (q + 1) r s = x21
    generalize wy a b (c - 1) d n p q (r + 1) s = x22
    generalize wy a b (c - 1) d n p q r (s + 1) = x23
    generalize wy a b c (d - 1) n (p + 1) q r s = x30
    generalize wy a b c (d - 1) n p (q + 1) r s = x31
    generalize wy a b c (d - 1) n p q (r + 1) s = x32
    generalize wy a b c (d - 1) n p q r (s + 1) = x33
    by_cases c1 : b < a <;> by_cases c2 : c < b <;> by_cases c3 : d < c <;> by_cases c4 : 0 < d <;> by_cases e1 : q < p <;> by_cases e2 : r < q <;> by_cases e3 : s < r <;> simp only [c1, c2, c3, c4, e1, e2, e3, if_true, if_false] <;> omega
end Go.Proofs.Ytnlcainfkchieaa
