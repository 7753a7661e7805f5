/- Fans and piles of cubes: products of fractions in lowest terms, told by loops; finitely many by the kernel. -/
import Derived.Test.YtahnknbggacndaaDegMath
namespace Go.Proofs.Ytahnknbggacndaa
open Go.RowKit
set_option linter.unusedVariables false
/-- a product with one fraction more -/
def tms (r : Nat × Nat) (a b : Nat) : Nat × Nat :=
  (r.1 / Nat.gcd r.1 (b / Nat.gcd a b) * (a / Nat.gcd a b / Nat.gcd (a / Nat.gcd a b) r.2), r.2 / Nat.gcd (a / Nat.gcd a b) r.2 * (b / Nat.gcd a b / Nat.gcd r.1 (b / Nat.gcd a b)))
def fnJ (k i : Nat) : Nat → Nat → Nat × Nat → Nat × Nat
  | 0, _, r => r
  | c + 1, j, r => fnJ k i c (j + 1) (tms r (i + j + 2 * k) (i + j))
def fnI (n k : Nat) : Nat → Nat → Nat × Nat → Nat × Nat
  | 0, _, r => r
  | c + 1, i, r => fnI n k c (i + 1) (fnJ k i (n - i) i r)
/-- all products on the way are small -/
def smR (r : Nat × Nat) : Bool := decide (1 ≤ r.1) && (decide (r.1 ≤ 100000000000) && (decide (1 ≤ r.2) && decide (r.2 ≤ 100000000000)))
def okJ (k i : Nat) : Nat → Nat → Nat × Nat → Bool
  | 0, _, r => smR r
  | c + 1, j, r => smR r && okJ k i c (j + 1) (tms r (i + j + 2 * k) (i + j))
def okI (n k : Nat) : Nat → Nat → Nat × Nat → Bool
  | 0, _, r => smR r
  | c + 1, i, r => okJ k i (n - i) i r && okI n k c (i + 1) (fnJ k i (n - i) i r)
theorem fan_ok : ((List.range 9).all fun n => (List.range 5).all fun k => okI n k (n - 1) 1 (1, 1)) = true := by decide +kernel
def fanN (n k : Nat) : Nat := (fnI n k (n - 1) 1 (1, 1)).1
theorem fan_tell : ((List.range 9).map fun n => (List.range 5).map fun k => fanN n k).flatten.length = 45 := by decide +kernel
def cbK (i j : Nat) : Nat → Nat → Nat × Nat → Nat × Nat
  | 0, _, r => r
  | c + 1, k, r => cbK i j c (k + 1) (tms r (i + j + k - 1) (i + j + k - 2))
def cbJ (i c : Nat) : Nat → Nat → Nat × Nat → Nat × Nat
  | 0, _, r => r
  | q + 1, j, r => cbJ i c q (j + 1) (cbK i j c 1 r)
def cbI (b c : Nat) : Nat → Nat → Nat × Nat → Nat × Nat
  | 0, _, r => r
  | q + 1, i, r => cbI b c q (i + 1) (cbJ i c b 1 r)
def okK (i j : Nat) : Nat → Nat → Nat × Nat → Bool
  | 0, _, r => smR r
  | c + 1, k, r => smR r && okK i j c (k + 1) (tms r (i + j + k - 1) (i + j + k - 2))
def okCJ (i c : Nat) : Nat → Nat → Nat × Nat → Bool
  | 0, _, r => smR r
  | q + 1, j, r => okK i j c 1 r && okCJ i c q (j + 1) (cbK i j c 1 r)
def okCI (b c : Nat) : Nat → Nat → Nat × Nat → Bool
  | 0, _, r => smR r
  | q + 1, i, r => okCJ i c b 1 r && okCI b c q (i + 1) (cbJ i c b 1 r)
theorem cube_ok : ((List.range 5).all fun a => (List.range 5).all fun b => (List.range 5).all fun c => okCI b c a 1 (1, 1)) = true := by decide +kernel
def cubeN (a b c : Nat) : Nat := (cbI b c a 1 (1, 1)).1
end Go.Proofs.Ytahnknbggacndaa
