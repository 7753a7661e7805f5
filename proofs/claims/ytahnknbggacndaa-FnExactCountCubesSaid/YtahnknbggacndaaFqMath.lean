/- Fans and piles of cubes as the program counts them: products brought to lowest terms; finitely many by the kernel. -/
import Derived.Test.YtahnknbggacndaaFanMath
namespace Go.Proofs.Ytahnknbggacndaa
open Go.RowKit
set_option linter.unusedVariables false
def tml (r : Nat × Nat) (a b : Nat) : Nat × Nat := (r.1 * a / Nat.gcd (r.1 * a) (r.2 * b), r.2 * b / Nat.gcd (r.1 * a) (r.2 * b))
def gnI (k j : Nat) : Nat → Nat → Nat × Nat → Nat × Nat
  | 0, _, r => r
  | c + 1, i, r => gnI k j c (i + 1) (tml r (i + j + 2 * k) (i + j))
def gnJ (k : Nat) : Nat → Nat → Nat × Nat → Nat × Nat
  | 0, _, r => r
  | c + 1, j, r => gnJ k c (j + 1) (gnI k j j 1 r)
def ogI (k j : Nat) : Nat → Nat → Nat × Nat → Bool
  | 0, _, r => smR r
  | c + 1, i, r => smR r && ogI k j c (i + 1) (tml r (i + j + 2 * k) (i + j))
def ogJ (k : Nat) : Nat → Nat → Nat × Nat → Bool
  | 0, _, r => smR r
  | c + 1, j, r => ogI k j j 1 r && ogJ k c (j + 1) (gnI k j j 1 r)
theorem fan_two : ((List.range 9).all fun n => (List.range 5).all fun k => ogJ k (n - 1) 1 (1, 1) && (gnJ k (n - 1) 1 (1, 1)).1 == fanN n k) = true := by decide +kernel
theorem fan2_at {n k : Nat} (hn : n ≤ 8) (hk : k ≤ 4) : ogJ k (n - 1) 1 (1, 1) = true ∧ (gnJ k (n - 1) 1 (1, 1)).1 = fanN n k := by
  have h := List.all_eq_true.mp fan_two n (List.mem_range.mpr (by omega))
  have h2 := List.all_eq_true.mp h k (List.mem_range.mpr (by omega))
  rw [Bool.and_eq_true, beq_iff_eq] at h2
  exact h2
def dbK (i j : Nat) : Nat → Nat → Nat × Nat → Nat × Nat
  | 0, _, r => r
  | c + 1, k, r => dbK i j c (k + 1) (tml r (i + j + k - 1) (i + j + k - 2))
def dbJ (i c : Nat) : Nat → Nat → Nat × Nat → Nat × Nat
  | 0, _, r => r
  | q + 1, j, r => dbJ i c q (j + 1) (dbK i j c 1 r)
def dbI (b c : Nat) : Nat → Nat → Nat × Nat → Nat × Nat
  | 0, _, r => r
  | q + 1, i, r => dbI b c q (i + 1) (dbJ i c b 1 r)
def odK (i j : Nat) : Nat → Nat → Nat × Nat → Bool
  | 0, _, r => smR r
  | c + 1, k, r => smR r && odK i j c (k + 1) (tml r (i + j + k - 1) (i + j + k - 2))
def odJ (i c : Nat) : Nat → Nat → Nat × Nat → Bool
  | 0, _, r => smR r
  | q + 1, j, r => odK i j c 1 r && odJ i c q (j + 1) (dbK i j c 1 r)
def odI (b c : Nat) : Nat → Nat → Nat × Nat → Bool
  | 0, _, r => smR r
  | q + 1, i, r => odJ i c b 1 r && odI b c q (i + 1) (dbJ i c b 1 r)
theorem cube_two : ((List.range 5).all fun a => (List.range 5).all fun b => (List.range 5).all fun c => odI b c a 1 (1, 1) && (dbI b c a 1 (1, 1)).1 == cubeN a b c) = true := by decide +kernel
theorem cube2_at {a b c : Nat} (ha : a ≤ 4) (hb : b ≤ 4) (hc : c ≤ 4) : odI b c a 1 (1, 1) = true ∧ (dbI b c a 1 (1, 1)).1 = cubeN a b c := by
  have h := List.all_eq_true.mp cube_two a (List.mem_range.mpr (by omega))
  have h2 := List.all_eq_true.mp h b (List.mem_range.mpr (by omega))
  have h3 := List.all_eq_true.mp h2 c (List.mem_range.mpr (by omega))
  rw [Bool.and_eq_true, beq_iff_eq] at h3
  exact h3
end Go.Proofs.Ytahnknbggacndaa
