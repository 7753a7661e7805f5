/- Pack 4 of what FnExactOrderedOfRank needs: DegMath, WayMath. -/
import Derived.Test.YtmfcknlpbliehaaKFnExactOrderedOfRank3
/- Degrees, their excess, forests, rotations: plain lists. -/
namespace Go.Proofs.Ytmfcknlpbliehaa
open Go.RowKit
def inBd (lo hi x : Int) : Bool := decide (lo ≤ x) && decide (x ≤ hi)
def allB (xs : List Int) (lo hi : Int) : Bool := xs.all (inBd lo hi)
def degB (xs : List Int) : Bool := inBd 1 16 (xs.length : Nat) && allB xs 0 16
theorem allB_take {xs : List Int} {lo hi : Int} {k : Nat} (h : allB (xs.take k) lo hi = true) (hk : k < xs.length) : allB (xs.take (k + 1)) lo hi = inBd lo hi (xs.getD k 0) := by
  unfold allB at *
  rw [List.take_succ_eq_append_getElem hk, List.all_append, h, Bool.true_and, List.getD_eq_getElem?_getD, List.getElem?_eq_getElem hk]
  simp
theorem allB_no {xs : List Int} {lo hi : Int} {k : Nat} (hk : k < xs.length) (h : inBd lo hi (xs.getD k 0) = false) : allB xs lo hi = false := by
  rw [Bool.eq_false_iff]
  intro e
  unfold allB at e
  rw [List.all_eq_true] at e
  have := e (xs.getD k 0) (by rw [List.getD_eq_getElem?_getD, List.getElem?_eq_getElem hk]; exact List.getElem_mem hk)
  rw [this] at h
  cases h
theorem degB_of {xs : List Int} (h : degB xs = true) : (1 ≤ xs.length ∧ xs.length ≤ 16) ∧ ∀ k, k < xs.length → 0 ≤ xs.getD k 0 ∧ xs.getD k 0 ≤ 16 := by
  unfold degB allB inBd at h
  rw [Bool.and_eq_true, List.all_eq_true] at h
  obtain ⟨h1, h2⟩ := h
  simp at h1
  refine ⟨by omega, fun k hk => ?_⟩
  have := h2 (xs.getD k 0) (by rw [List.getD_eq_getElem?_getD, List.getElem?_eq_getElem hk]; exact List.getElem_mem hk)
  simpa using this
theorem take_sum (xs : List Int) (k : Nat) (h : k < xs.length) : (xs.take (k + 1)).sum = (xs.take k).sum + xs.getD k 0 := by
  rw [List.take_succ_eq_append_getElem h, List.sum_append, List.getD_eq_getElem?_getD, List.getElem?_eq_getElem h]
  simp
/-- the sum of the first k degrees -/
def sumT (xs : List Int) (k : Nat) : Int := (xs.take k).sum
theorem sumT_0 (xs : List Int) : sumT xs 0 = 0 := by simp [sumT]
theorem sumT_succ (xs : List Int) (k : Nat) (h : k < xs.length) : sumT xs (k + 1) = sumT xs k + xs.getD k 0 := take_sum xs k h
theorem sumT_bd {xs : List Int} (h : degB xs = true) : ∀ k, k ≤ xs.length → 0 ≤ sumT xs k ∧ sumT xs k ≤ 16 * k
  | 0, _ => by rw [sumT_0]; omega
  | k + 1, hk => by
    have h1 := sumT_bd h k (by omega)
    have h2 := (degB_of h).2 k (by omega)
    rw [sumT_succ xs k (by omega)]
    omega
def exc (xs : List Int) : Int := (xs.length : Int) - sumT xs xs.length
/-- no beginning of less than k falls too low -/
def upB (xs : List Int) (r : Int) : Nat → Bool
  | 0 => true
  | k + 1 => upB xs r k && !(decide (sumT xs (k + 1) - ((k + 1 : Nat) : Int) ≤ -r) && decide (k + 1 < xs.length))
def forB (xs : List Int) : Bool := decide (1 ≤ exc xs) && upB xs (exc xs) xs.length
theorem upB_no {xs : List Int} {r : Int} {k : Nat} (h : sumT xs (k + 1) - ((k + 1 : Nat) : Int) ≤ -r) (hk : k + 1 < xs.length) : ∀ m, upB xs r (k + 1 + m) = false
  | 0 => by rw [Nat.add_zero, upB, decide_eq_true h, decide_eq_true hk]; simp
  | m + 1 => by rw [← Nat.add_assoc, upB, upB_no h hk m]; simp
theorem upB_step {xs : List Int} {r : Int} {k : Nat} (h : upB xs r k = true) (hn : ¬ (sumT xs (k + 1) - ((k + 1 : Nat) : Int) ≤ -r ∧ k + 1 < xs.length)) : upB xs r (k + 1) = true := by
  rw [upB, h, Bool.true_and, Bool.not_eq_true', Bool.and_eq_false_iff, decide_eq_false_iff_not, decide_eq_false_iff_not]
  omega
theorem forB_low {xs : List Int} (h : exc xs < 1) : forB xs = false := by unfold forB; rw [decide_eq_false (by omega)]; rfl
theorem forB_no {xs : List Int} {k : Nat} (h : sumT xs (k + 1) - ((k + 1 : Nat) : Int) ≤ -exc xs) (hk : k + 1 < xs.length) : forB xs = false := by
  have := upB_no h hk (xs.length - (k + 1))
  rw [show k + 1 + (xs.length - (k + 1)) = xs.length by omega] at this
  unfold forB
  rw [this, Bool.and_false]
theorem forB_yes {xs : List Int} (h1 : 1 ≤ exc xs) (h : upB xs (exc xs) xs.length = true) : forB xs = true := by
  unfold forB; rw [decide_eq_true h1, h]; rfl
def rot (xs : List Int) (k : Nat) : List Int := xs.drop k ++ xs.take k
theorem rot_length (xs : List Int) (k : Nat) (h : k ≤ xs.length) : (rot xs k).length = xs.length := by
  unfold rot; rw [List.length_append, List.length_drop, List.length_take]; omega
end Go.Proofs.Ytmfcknlpbliehaa

/- Ways on from a standing to a result: plain numbers. -/
namespace Go.Proofs.Ytmfcknlpbliehaa
set_option linter.unusedVariables false
/-- in how many ways n votes that overtake nowhere lead from p q r s to a b c d -/
def wy (a b c d : Nat) : Nat → Nat → Nat → Nat → Nat → Nat
  | 0, p, q, r, s => if p = a ∧ q = b ∧ r = c ∧ s = d then 1 else 0
  | n + 1, p, q, r, s => wy a b c d n (p + 1) q r s + (if q < p then wy a b c d n p (q + 1) r s else 0) + (if r < q then wy a b c d n p q (r + 1) s else 0) + (if s < r then wy a b c d n p q r (s + 1) else 0)
theorem wy_big {a b c d : Nat} : ∀ (n p q r s : Nat), (a < p ∨ b < q ∨ c < r ∨ d < s) → wy a b c d n p q r s = 0
  | 0, p, q, r, s, h => by rw [wy, if_neg (by omega)]
  | n + 1, p, q, r, s, h => by
    rw [wy, wy_big n (p + 1) q r s (by omega), wy_big n p (q + 1) r s (by omega), wy_big n p q (r + 1) s (by omega), wy_big n p q r (s + 1) (by omega)]
    simp
theorem wy_le {a b c d : Nat} : ∀ (n p q r s : Nat), wy a b c d n p q r s ≤ 4 ^ n
  | 0, p, q, r, s => by rw [wy]; split <;> simp
  | n + 1, p, q, r, s => by
    have h1 := wy_le (a := a) (b := b) (c := c) (d := d) n (p + 1) q r s
    have h2 := wy_le (a := a) (b := b) (c := c) (d := d) n p (q + 1) r s
    have h3 := wy_le (a := a) (b := b) (c := c) (d := d) n p q (r + 1) s
    have h4 := wy_le (a := a) (b := b) (c := c) (d := d) n p q r (s + 1)
    rw [wy, Nat.pow_succ]
    generalize 4 ^ n = z at *
    split <;> split <;> split <;> omega
theorem if_iff {p q : Prop} [Decidable p] [Decidable q] {x y : Nat} (h : p ↔ q) : (if p then x else y) = if q then x else y := by
  by_cases hp : p
  · rw [if_pos hp, if_pos (h.1 hp)]
  · rw [if_neg hp, if_neg (fun hq => hp (h.2 hq))]
theorem if_if {p q : Prop} [Decidable p] [Decidable q] : (if p then (if q then 1 else 0) else 0) = if p ∧ q then 1 else 0 := by
  by_cases hp : p <;> by_cases hq : q <;> simp [hp, hq]
theorem wy_one {a b c d : Nat} (p q r s : Nat) (h1 : b ≤ a) (h2 : c ≤ b) (h3 : d ≤ c) (g1 : q ≤ p) (g2 : r ≤ q) (g3 : s ≤ r) :
    wy a b c d 1 p q r s = (if b < a then wy (a - 1) b c d 0 p q r s else 0) + (if c < b then wy a (b - 1) c d 0 p q r s else 0) + (if d < c then wy a b (c - 1) d 0 p q r s else 0) + (if 0 < d then wy a b c (d - 1) 0 p q r s else 0) := by
  simp only [wy, if_if]
  congr 1
  · congr 1
    · congr 1
      · exact if_iff (by omega)
      · exact if_iff (by omega)
    · exact if_iff (by omega)
  · exact if_iff (by omega)
theorem wy_back (n : Nat) : ∀ {a b c d : Nat} (p q r s : Nat) (h1 : b ≤ a) (h2 : c ≤ b) (h3 : d ≤ c) (g1 : q ≤ p) (g2 : r ≤ q) (g3 : s ≤ r),
    wy a b c d (n + 1) p q r s = (if b < a then wy (a - 1) b c d n p q r s else 0) + (if c < b then wy a (b - 1) c d n p q r s else 0) + (if d < c then wy a b (c - 1) d n p q r s else 0) + (if 0 < d then wy a b c (d - 1) n p q r s else 0) := by
  induction n with
  | zero => intro a b c d p q r s h1 h2 h3 g1 g2 g3; exact wy_one p q r s h1 h2 h3 g1 g2 g3
  | succ n ih =>
    intro a b c d p q r s h1 h2 h3 g1 g2 g3
    rw [wy, ih (p + 1) q r s h1 h2 h3 (by omega) g2 g3]
    have k1 : (if q < p then wy a b c d (n + 1) p (q + 1) r s else 0) = if q < p then ((if b < a then wy (a - 1) b c d n p (q + 1) r s else 0) + (if c < b then wy a (b - 1) c d n p (q + 1) r s else 0) + (if d < c then wy a b (c - 1) d n p (q + 1) r s else 0) + (if 0 < d then wy a b c (d - 1) n p (q + 1) r s else 0)) else 0 := by
      by_cases h : q < p
      · rw [if_pos h, if_pos h, ih p (q + 1) r s h1 h2 h3 (by omega) (by omega) g3]
      · rw [if_neg h, if_neg h]
    have k2 : (if r < q then wy a b c d (n + 1) p q (r + 1) s else 0) = if r < q then ((if b < a then wy (a - 1) b c d n p q (r + 1) s else 0) + (if c < b then wy a (b - 1) c d n p q (r + 1) s else 0) + (if d < c then wy a b (c - 1) d n p q (r + 1) s else 0) + (if 0 < d then wy a b c (d - 1) n p q (r + 1) s else 0)) else 0 := by
      by_cases h : r < q
      · rw [if_pos h, if_pos h, ih p q (r + 1) s h1 h2 h3 g1 (by omega) (by omega)]
      · rw [if_neg h, if_neg h]
    have k3 : (if s < r then wy a b c d (n + 1) p q r (s + 1) else 0) = if s < r then ((if b < a then wy (a - 1) b c d n p q r (s + 1) else 0) + (if c < b then wy a (b - 1) c d n p q r (s + 1) else 0) + (if d < c then wy a b (c - 1) d n p q r (s + 1) else 0) + (if 0 < d then wy a b c (d - 1) n p q r (s + 1) else 0)) else 0 := by
      by_cases h : s < r
      · rw [if_pos h, if_pos h, ih p q r (s + 1) h1 h2 h3 g1 g2 (by omega)]
      · rw [if_neg h, if_neg h]
    rw [k1, k2, k3]
    clear k1 k2 k3 ih
    simp only [wy]
    generalize wy (a - 1) b c d n (p + 1) q r s = x00
    generalize wy (a - 1) b c d n p (q + 1) r s = x01
    generalize wy (a - 1) b c d n p q (r + 1) s = x02
    generalize wy (a - 1) b c d n p q r (s + 1) = x03
    generalize wy a (b - 1) c d n (p + 1) q r s = x10
    generalize wy a (b - 1) c d n p (q + 1) r s = x11
    generalize wy a (b - 1) c d n p q (r + 1) s = x12
    generalize wy a (b - 1) c d n p q r (s + 1) = x13
    generalize wy a b (c - 1) d n (p + 1) q r s = x20
    generalize wy a b (c - 1) d n p (q + 1) r s = x21
    generalize wy a b (c - 1) d n p q (r + 1) s = x22
    generalize wy a b (c - 1) d n p q r (s + 1) = x23
    generalize wy a b c (d - 1) n (p + 1) q r s = x30
    generalize wy a b c (d - 1) n p (q + 1) r s = x31
    generalize wy a b c (d - 1) n p q (r + 1) s = x32
    generalize wy a b c (d - 1) n p q r (s + 1) = x33
    by_cases c1 : b < a <;> by_cases c2 : c < b <;> by_cases c3 : d < c <;> by_cases c4 : 0 < d <;> by_cases e1 : q < p <;> by_cases e2 : r < q <;> by_cases e3 : s < r <;> simp only [c1, c2, c3, c4, e1, e2, e3, if_true, if_false] <;> omega
end Go.Proofs.Ytmfcknlpbliehaa
