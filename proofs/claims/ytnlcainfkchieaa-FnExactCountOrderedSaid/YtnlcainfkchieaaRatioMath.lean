/- Fractions in lowest terms. -/
import Derived.Test.YtnlcainfkchieaaMath
namespace Go.Proofs.Ytnlcainfkchieaa
open Go.RowKit
theorem gcd_step {x y g : Nat} (h : Nat.gcd x y = g) : Nat.gcd y (x % y) = g := by
  rw [← h, Nat.gcd_comm x y, Nat.gcd_rec y x, Nat.gcd_comm]
theorem gcd_end {x g : Nat} (h : Nat.gcd x 0 = g) : x = g := by simpa using h
theorem cast_mod (x y : Nat) : (x : Int) % (y : Int) = ((x % y : Nat) : Int) := (Int.natCast_emod x y).symm
theorem cast_div (x y : Nat) : (x : Int) / (y : Int) = ((x / y : Nat) : Int) := (Int.natCast_ediv x y).symm
theorem div_bd (p x : Nat) (h : p ≤ 70368744177664) : 0 ≤ (p : Int) / (x : Int) ∧ (p : Int) / (x : Int) ≤ 70368744177664 := by
  rw [cast_div]
  have := Nat.div_le_self p x
  generalize p / x = z at *
  omega
def numR (p q : Nat) : Int := ((p / Nat.gcd p q : Nat) : Int)
def denR (p q : Nat) : Int := ((q / Nat.gcd p q : Nat) : Int)
end Go.Proofs.Ytnlcainfkchieaa
