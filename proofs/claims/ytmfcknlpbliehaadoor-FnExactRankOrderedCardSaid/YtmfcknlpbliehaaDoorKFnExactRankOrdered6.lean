/- Pack 6 of what FnExactRankOrdered needs: OneI, RatioMath. -/
import Derived.Test.YtmfcknlpbliehaaDoorKFnExactRankOrdered5
/- Slices of one number and of two, just made. -/
namespace Go.Proofs.YtmfcknlpbliehaaDoor
open Go.RowKit
set_option linter.unusedVariables false
theorem one_ints (w : World) (x : Int) : RInts (w.alloc (.cells #[.int .i64 x] 3)) (.slice (some ⟨w.heap.size, 0, none⟩) 1 1) [x] :=
  RInts.of_row (B := w.heap.size) (IRow.of_own (World.ownsRow_lit w #[.int .i64 x] 1 (Nat.le_refl _) (by simp [maxLen]) rfl) (by simp) (by simp))
theorem two_ints (w : World) (x y : Int) : RInts (w.alloc (.cells #[.int .i64 x, .int .i64 y] 3)) (.slice (some ⟨w.heap.size, 0, none⟩) 2 2) [x, y] :=
  RInts.of_row (B := w.heap.size) (IRow.of_own (World.ownsRow_lit w #[.int .i64 x, .int .i64 y] 2 (Nat.le_refl _) (by simp [maxLen]) rfl) (by simp) (by simp))
end Go.Proofs.YtmfcknlpbliehaaDoor

/- Fractions in lowest terms. -/
namespace Go.Proofs.YtmfcknlpbliehaaDoor
open Go.RowKit
theorem gcd_step {x y g : Nat} (h : Nat.gcd x y = g) : Nat.gcd y (x % y) = g := by
  rw [← h, Nat.gcd_comm x y, Nat.gcd_rec y x, Nat.gcd_comm]
theorem gcd_end {x g : Nat} (h : Nat.gcd x 0 = g) : x = g := by simpa using h
theorem cast_mod (x y : Nat) : (x : Int) % (y : Int) = ((x % y : Nat) : Int) := (Int.natCast_emod x y).symm
theorem cast_div (x y : Nat) : (x : Int) / (y : Int) = ((x / y : Nat) : Int) := (Int.natCast_ediv x y).symm
theorem div_bd (p x : Nat) (h : p ≤ 70368744177664) : 0 ≤ (p : Int) / (x : Int) ∧ (p : Int) / (x : Int) ≤ 70368744177664 := by
  rw [cast_div]
  have := Nat.div_le_self p x
  generalize p / x = z at *
  omega
def numR (p q : Nat) : Int := ((p / Nat.gcd p q : Nat) : Int)
def denR (p q : Nat) : Int := ((q / Nat.gcd p q : Nat) : Int)
end Go.Proofs.YtmfcknlpbliehaaDoor
