/- Moments of levels of weights, by last steps. -/
import Derived.Test.YtnmmgpmhpjjehaaKcMath
namespace Go.Proofs.Ytnmmgpmhpjjehaa
open Go.RowKit
set_option linter.unusedVariables false
/-- the sum of the weights of k steps to the height h, no height above K -/
def mo (K : Nat) (F D : Nat → Int) : Nat → Nat → Int
  | 0, h => if h = 0 then 1 else 0
  | k + 1, 0 => if 0 < K then F 0 * mo K F D k 0 + D 0 * mo K F D k 1 else 0
  | k + 1, h + 1 => (if h + 1 < K then F (h + 1) * mo K F D k (h + 1) + D (h + 1) * mo K F D k (h + 2) else 0) + (if h < K then mo K F D k h else 0)
theorem mo_step (K : Nat) (F D : Nat → Int) (k i : Nat) : mo K F D (k + 1) i = (if i < K then F i * mo K F D k i + D i * mo K F D k (i + 1) else 0) + (if 1 ≤ i ∧ i ≤ K then mo K F D k (i - 1) else 0) := by
  cases i with
  | zero => rw [mo, if_neg (show ¬ (1 ≤ 0 ∧ 0 ≤ K) by omega), Int.add_zero]
  | succ i =>
    rw [mo]
    congr 1
    by_cases h : i < K
    · rw [if_pos h, if_pos (by omega)]; rfl
    · rw [if_neg h, if_neg (by omega)]
theorem mul_abs {a b A B : Int} (ha : -A ≤ a ∧ a ≤ A) (hb : -B ≤ b ∧ b ≤ B) : -(A * B) ≤ a * b ∧ a * b ≤ A * B := by
  have h : (a * b).natAbs ≤ A.toNat * B.toNat := by rw [Int.natAbs_mul]; exact Nat.mul_le_mul (by omega) (by omega)
  have e : ((A.toNat * B.toNat : Nat) : Int) = A * B := by rw [Int.natCast_mul]; congr 1 <;> omega
  omega
theorem mo_bd {K : Nat} {F D : Nat → Int} (hF : ∀ i, i < K → -5 ≤ F i ∧ F i ≤ 5) (hD : ∀ i, i < K → -5 ≤ D i ∧ D i ≤ 5) : ∀ k h, -((11 ^ k : Nat) : Int) ≤ mo K F D k h ∧ mo K F D k h ≤ ((11 ^ k : Nat) : Int)
  | 0, h => by unfold mo; split <;> simp
  | k + 1, h => by
    have e : ((11 ^ (k + 1) : Nat) : Int) = 11 * ((11 ^ k : Nat) : Int) := by rw [Nat.pow_succ]; omega
    have b0 := mo_bd hF hD k h
    have b1 := mo_bd hF hD k (h + 1)
    have b2 := mo_bd hF hD k (h - 1)
    rw [mo_step, e]
    by_cases hh : h < K
    · have m1 := mul_abs (A := 5) (hF h hh) b0
      have m2 := mul_abs (A := 5) (hD h hh) b1
      rw [if_pos hh]
      split <;> omega
    · rw [if_neg hh]
      split <;> omega
theorem ifc {p q : Prop} [Decidable p] [Decidable q] (h : p ↔ q) (x y : Int) : (if p then x else y) = if q then x else y := by
  by_cases hp : p
  · rw [if_pos hp, if_pos (h.1 hp)]
  · rw [if_neg hp, if_neg (fun hq => hp (h.2 hq))]
/-- the row of k + 1 when the heights below j have been looked at -/
def moP (K : Nat) (F D : Nat → Int) (k j i : Nat) : Int :=
  (if i < j ∧ i < K then F i * mo K F D k i else 0) + (if 1 ≤ i ∧ i ≤ j ∧ i ≤ K then mo K F D k (i - 1) else 0) + (if i + 1 < j ∧ i + 1 < K then D i * mo K F D k (i + 1) else 0)
theorem moP_zero (K : Nat) (F D : Nat → Int) (k n : Nat) : List.replicate n (0 : Int) = fr (moP K F D k 0) n := by
  apply List.ext_getElem
  · simp [fr]
  · intro i h1 h2
    simp only [fr, List.getElem_replicate, List.getElem_map, List.getElem_range, moP]
    rw [if_neg (by omega), if_neg (by omega), if_neg (by omega)]
    rfl
theorem moP_bd {K : Nat} {F D : Nat → Int} (hF : ∀ i, i < K → -5 ≤ F i ∧ F i ≤ 5) (hD : ∀ i, i < K → -5 ≤ D i ∧ D i ≤ 5) (k j i : Nat) : -((11 ^ (k + 1) : Nat) : Int) ≤ moP K F D k j i ∧ moP K F D k j i ≤ ((11 ^ (k + 1) : Nat) : Int) := by
  have e : ((11 ^ (k + 1) : Nat) : Int) = 11 * ((11 ^ k : Nat) : Int) := by rw [Nat.pow_succ]; omega
  have b0 := mo_bd hF hD k i
  have b1 := mo_bd hF hD k (i + 1)
  have b2 := mo_bd hF hD k (i - 1)
  rw [e]
  unfold moP
  by_cases hh : i < K
  · have m1 := mul_abs (A := 5) (hF i hh) b0
    have m2 := mul_abs (A := 5) (hD i hh) b1
    split <;> split <;> split <;> omega
  · rw [if_neg (show ¬ (i < j ∧ i < K) by omega), if_neg (show ¬ (i + 1 < j ∧ i + 1 < K) by omega)]
    split <;> omega
theorem moP_here (K : Nat) (F D : Nat → Int) (k j : Nat) (h : j < K) : moP K F D k (j + 1) j = moP K F D k j j + F j * mo K F D k j := by
  unfold moP
  rw [if_pos (show j < j + 1 ∧ j < K by omega), if_neg (show ¬ (j < j ∧ j < K) by omega), if_neg (show ¬ (j + 1 < j + 1 ∧ j + 1 < K) by omega), if_neg (show ¬ (j + 1 < j ∧ j + 1 < K) by omega)]
  have e : (1 ≤ j ∧ j ≤ j + 1 ∧ j ≤ K) ↔ (1 ≤ j ∧ j ≤ j ∧ j ≤ K) := by omega
  rw [ifc e]
  omega
theorem moP_up (K : Nat) (F D : Nat → Int) (k j : Nat) (h : j < K) : moP K F D k (j + 1) (j + 1) = moP K F D k j (j + 1) + mo K F D k j := by
  unfold moP
  rw [if_neg (show ¬ (j + 1 < j + 1 ∧ j + 1 < K) by omega), if_neg (show ¬ (j + 1 < j ∧ j + 1 < K) by omega), if_pos (show 1 ≤ j + 1 ∧ j + 1 ≤ j + 1 ∧ j + 1 ≤ K by omega), if_neg (show ¬ (1 ≤ j + 1 ∧ j + 1 ≤ j ∧ j + 1 ≤ K) by omega), if_neg (show ¬ (j + 1 + 1 < j + 1 ∧ j + 1 + 1 < K) by omega), if_neg (show ¬ (j + 1 + 1 < j ∧ j + 1 + 1 < K) by omega), Nat.add_sub_cancel]
  omega
theorem moP_down (K : Nat) (F D : Nat → Int) (k p : Nat) (h : p + 1 < K) : moP K F D k (p + 1 + 1) p = moP K F D k (p + 1) p + D p * mo K F D k (p + 1) := by
  unfold moP
  rw [if_pos (show p < p + 1 + 1 ∧ p < K by omega), if_pos (show p < p + 1 ∧ p < K by omega), if_pos (show p + 1 < p + 1 + 1 ∧ p + 1 < K by omega), if_neg (show ¬ (p + 1 < p + 1 ∧ p + 1 < K) by omega)]
  have e : (1 ≤ p ∧ p ≤ p + 1 + 1 ∧ p ≤ K) ↔ (1 ≤ p ∧ p ≤ p + 1 ∧ p ≤ K) := by omega
  rw [ifc e]
  omega
theorem moP_same (K : Nat) (F D : Nat → Int) (k j i : Nat) (h1 : i ≠ j) (h2 : i ≠ j + 1) (h3 : i + 1 ≠ j) : moP K F D k j i = moP K F D k (j + 1) i := by
  unfold moP
  have e1 : (i < j ∧ i < K) ↔ (i < j + 1 ∧ i < K) := by omega
  have e2 : (1 ≤ i ∧ i ≤ j ∧ i ≤ K) ↔ (1 ≤ i ∧ i ≤ j + 1 ∧ i ≤ K) := by omega
  have e3 : (i + 1 < j ∧ i + 1 < K) ↔ (i + 1 < j + 1 ∧ i + 1 < K) := by omega
  rw [ifc e1, ifc e2, ifc e3]
theorem moP_set (K : Nat) (F D : Nat → Int) (k p n : Nat) : (((fr (moP K F D k (p + 1)) n).set (p + 1) (moP K F D k (p + 1 + 1) (p + 1))).set (p + 1 + 1) (moP K F D k (p + 1 + 1) (p + 1 + 1))).set p (moP K F D k (p + 1 + 1) p) = fr (moP K F D k (p + 1 + 1)) n :=
  fr_set3 _ _ _ _ _ _ fun j _ h1 h2 h3 => moP_same K F D k (p + 1) j h1 h2 (by omega)
theorem moP_set0 (K : Nat) (F D : Nat → Int) (k n : Nat) : ((fr (moP K F D k 0) n).set 0 (moP K F D k 1 0)).set 1 (moP K F D k 1 1) = fr (moP K F D k 1) n := by
  have := fr_set3 (moP K F D k 0) (moP K F D k 1) n 0 1 1 fun j _ h1 h2 h3 => moP_same K F D k 0 j h1 h2 (by omega)
  rwa [List.set_set] at this
theorem moP_fin (K : Nat) (F D : Nat → Int) (k : Nat) (h : 1 ≤ K) : (fr (moP K F D k K) (K + 1)).set (K - 1) (moP K F D k K (K - 1) + D (K - 1) * mo K F D k K) = fr (fun j => mo K F D (k + 1) j) (K + 1) := by
  have := fr_set (moP K F D k K) (fun j => mo K F D (k + 1) j) (K + 1) (K - 1) fun j hj hne => by
    show _ = mo K F D (k + 1) j
    rw [mo_step]
    unfold moP
    by_cases hh : j < K
    · rw [if_pos (show j < K ∧ j < K by omega), if_pos (show j + 1 < K ∧ j + 1 < K by omega), if_pos hh]
      have e : (1 ≤ j ∧ j ≤ K ∧ j ≤ K) ↔ (1 ≤ j ∧ j ≤ K) := by omega
      rw [ifc e]
      omega
    · rw [if_neg (show ¬ (j < K ∧ j < K) by omega), if_neg (show ¬ (j + 1 < K ∧ j + 1 < K) by omega), if_neg hh]
      have e : (1 ≤ j ∧ j ≤ K ∧ j ≤ K) ↔ (1 ≤ j ∧ j ≤ K) := by omega
      rw [ifc e]
      omega
  rw [← this]
  congr 1
  show _ = mo K F D (k + 1) (K - 1)
  rw [mo_step]
  unfold moP
  rw [if_pos (show K - 1 < K ∧ K - 1 < K by omega), if_neg (show ¬ (K - 1 + 1 < K ∧ K - 1 + 1 < K) by omega), if_pos (show K - 1 < K by omega), show K - 1 + 1 = K by omega]
  have e : (1 ≤ K - 1 ∧ K - 1 ≤ K ∧ K - 1 ≤ K) ↔ (1 ≤ K - 1 ∧ K - 1 ≤ K) := by omega
  rw [ifc e]
  omega
theorem mo_first (K : Nat) (F D : Nat → Int) : (List.replicate (K + 1) (0 : Int)).set 0 1 = fr (fun j => mo K F D 0 j) (K + 1) := by
  apply List.ext_getElem
  · simp [fr]
  · intro i h1 h2
    simp only [fr, List.getElem_set, List.getElem_replicate, List.getElem_map, List.getElem_range, mo]
    by_cases e : i = 0
    · subst e; rfl
    · rw [if_neg (fun x => e x.symm), if_neg e]
end Go.Proofs.Ytnmmgpmhpjjehaa
