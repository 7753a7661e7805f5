/- Pack 6 of what FnBoldPlay needs: Math, RatioMath. -/
import Derived.Test.YthgblfldncidnaaKFnBoldPlay5
import Derived.WalkKit
/- Plain facts on lists of bytes and numbers: what the paths' functions compute. -/
namespace Go.Proofs.Ythgblfldncidnaa
open Go.RowKit

def isUD (c : UInt8) : Bool := c == 85 || c == 68
def pathB (s : ByteArray) : Bool := decide (s.size ≤ 40) && s.data.toList.all isUD

theorem take_snoc (s : ByteArray) (k : Nat) (h : k < s.size) : s.data.toList.take (k + 1) = s.data.toList.take k ++ [s[k]] := by
  rw [List.take_succ_eq_append_getElem (by simpa using h)]; rfl

theorem pathB_iff (s : ByteArray) : pathB s = true ↔ s.size ≤ 40 ∧ ∀ k (h : k < s.size), isUD s[k] = true := by
  unfold pathB
  rw [Bool.and_eq_true, decide_eq_true_iff, List.all_eq_true]
  constructor
  · rintro ⟨h1, h2⟩
    exact ⟨h1, fun k h => h2 _ (by
      have : s[k] = s.data.toList[k]'(by simpa using h) := rfl
      rw [this]; exact List.getElem_mem _)⟩
  · rintro ⟨h1, h2⟩
    refine ⟨h1, fun x hx => ?_⟩
    obtain ⟨i, hi, rfl⟩ := List.mem_iff_getElem.1 hx
    exact h2 i (by simpa using hi)

end Go.Proofs.Ythgblfldncidnaa

/- Fractions in lowest terms. -/
namespace Go.Proofs.Ythgblfldncidnaa
open Go.RowKit
theorem gcd_step {x y g : Nat} (h : Nat.gcd x y = g) : Nat.gcd y (x % y) = g := by
  rw [← h, Nat.gcd_comm x y, Nat.gcd_rec y x, Nat.gcd_comm]
theorem gcd_end {x g : Nat} (h : Nat.gcd x 0 = g) : x = g := by simpa using h
theorem cast_mod (x y : Nat) : (x : Int) % (y : Int) = ((x % y : Nat) : Int) := (Int.natCast_emod x y).symm
theorem cast_div (x y : Nat) : (x : Int) / (y : Int) = ((x / y : Nat) : Int) := (Int.natCast_ediv x y).symm
theorem div_bd (p x : Nat) (h : p ≤ 70368744177664) : 0 ≤ (p : Int) / (x : Int) ∧ (p : Int) / (x : Int) ≤ 70368744177664 := by
  rw [cast_div]
  have := Nat.div_le_self p x
  generalize p / x = z at *
  omega
def numR (p q : Nat) : Int := ((p / Nat.gcd p q : Nat) : Int)
def denR (p q : Nat) : Int := ((q / Nat.gcd p q : Nat) : Int)
end Go.Proofs.Ythgblfldncidnaa
