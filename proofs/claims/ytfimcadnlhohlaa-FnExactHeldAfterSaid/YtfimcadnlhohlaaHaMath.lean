/- The chances to hold each amount, one behind the other. -/
import Derived.Test.YtfimcadnlhohlaaHwMath
namespace Go.Proofs.Ytfimcadnlhohlaa
open Go.RowKit
set_option linter.unusedVariables false
def hcv (F : Nat → Int) (b : Int) (c : Nat) : Int := if c % 2 = 0 then numZ (F (c / 2)) b else denZ (F (c / 2)) b
theorem hcv_even (F : Nat → Int) (b : Int) (m : Nat) : hcv F b (m * 2) = numZ (F m) b := by
  unfold hcv
  rw [if_pos (by omega), show m * 2 / 2 = m by omega]
theorem hcv_odd (F : Nat → Int) (b : Int) (m : Nat) : hcv F b (m * 2 + 1) = denZ (F m) b := by
  unfold hcv
  rw [if_neg (by omega), show (m * 2 + 1) / 2 = m by omega]
theorem hcv_snoc (F : Nat → Int) (b : Int) (m : Nat) : fr (hcv F b) (m * 2) ++ [numZ (F m) b, denZ (F m) b] = fr (hcv F b) ((m + 1) * 2) := by
  rw [show (m + 1) * 2 = m * 2 + 1 + 1 by omega, ← fr_snoc, ← fr_snoc, hcv_even, hcv_odd, List.append_assoc]
  rfl
/-- the first m are told -/
def hcP (F : Nat → Int) (b : Int) (N m : Nat) : List Int := fr (fun c => if c < m * 2 then hcv F b c else 0) (N * 2)
theorem hcP_len (F : Nat → Int) (b : Int) (N m : Nat) : (hcP F b N m).length = N * 2 := fr_length _ _
theorem hcP_zero (F : Nat → Int) (b : Int) (N : Nat) : List.replicate (N * 2) (0 : Int) = hcP F b N 0 := by
  apply List.ext_getElem
  · simp [hcP, fr]
  · intro j h1 h2
    simp [hcP, fr]
theorem hcP_end (F : Nat → Int) (b : Int) (N : Nat) : hcP F b N N = fr (hcv F b) (N * 2) := fr_congr fun j hj => by rw [if_pos hj]
theorem hcP_set (F : Nat → Int) (b : Int) (N m : Nat) : ((hcP F b N m).set (m * 2) (numZ (F m) b)).set (m * 2 + 1) (denZ (F m) b) = hcP F b N (m + 1) := by
  refine fr_set2 _ _ _ _ _ _ _ ?_ ?_ fun j hj h1 h2 => ?_
  · rw [if_pos (by omega), hcv_even]
  · rw [if_pos (by omega), hcv_odd]
  · by_cases h : j < m * 2
    · rw [if_pos h, if_pos (by omega)]
    · rw [if_neg h, if_neg (by omega)]
end Go.Proofs.Ytfimcadnlhohlaa
