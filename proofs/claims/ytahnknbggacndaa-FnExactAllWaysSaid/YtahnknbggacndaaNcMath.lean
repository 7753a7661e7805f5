/- Ways over a grid: their cells, told by how many steps have been made. -/
import Derived.Test.YtahnknbggacndaaDegMath
import Derived.Test.YtahnknbggacndaaBalMath
namespace Go.Proofs.Ytahnknbggacndaa
open Go.RowKit
set_option linter.unusedVariables false
def cellB (x y : Int) : Bool := inBd 0 12 x && inBd 0 12 y
theorem cellB_iff (x y : Int) : cellB x y = true ↔ (0 ≤ x ∧ x ≤ 12) ∧ 0 ≤ y ∧ y ≤ 12 := by
  unfold cellB inBd
  simp only [Bool.and_eq_true, decide_eq_true_eq]
/-- the step at k, as a number -/
def bt (s : ByteArray) (k : Nat) : Int := if h : k < s.size then ((s[k]).toNat : Int) else 0
theorem bt_at (s : ByteArray) {k : Nat} (h : k < s.size) : bt s k = ((s[k]).toNat : Int) := by unfold bt; rw [dif_pos h]
def cX (s : ByteArray) (x : Int) : Nat → Int
  | 0 => x
  | k + 1 => cX s x k + (if bt s k = 69 then 1 else 0)
def cY (s : ByteArray) (y : Int) : Nat → Int
  | 0 => y
  | k + 1 => cY s y k + (if bt s k = 78 then 1 else 0)
/-- the first k steps are good and come to cells -/
def okW (s : ByteArray) (x y : Int) : Nat → Bool
  | 0 => true
  | k + 1 => okW s x y k && ((bt s k == 69 || bt s k == 78) && cellB (cX s x (k + 1)) (cY s y (k + 1)))
theorem okW_le {s : ByteArray} {x y : Int} {k : Nat} : ∀ {n : Nat}, okW s x y n = true → k ≤ n → okW s x y k = true
  | 0, h, hk => by rw [show k = 0 by omega]; exact h
  | n + 1, h, hk => by
    by_cases e : k = n + 1
    · rw [e]; exact h
    · have h1 : okW s x y n = true := by
        unfold okW at h
        rw [Bool.and_eq_true] at h
        exact h.1
      exact okW_le h1 (by omega)
theorem okW_no {s : ByteArray} {x y : Int} {k n : Nat} (h : okW s x y k = false) (hk : k ≤ n) : okW s x y n = false := by
  cases e : okW s x y n with
  | false => rfl
  | true => rw [okW_le e hk] at h; cases h
def wayB (x y : Int) (s : ByteArray) : Bool := (cellB x y && decide (s.size ≤ 24)) && okW s x y s.size
theorem wayB_of {x y : Int} {s : ByteArray} (h : wayB x y s = true) : cellB x y = true ∧ s.size ≤ 24 ∧ okW s x y s.size = true := by
  unfold wayB at h
  rw [Bool.and_eq_true, Bool.and_eq_true, decide_eq_true_eq] at h
  exact ⟨h.1.1, h.1.2, h.2⟩
/-- the cells behind at most k steps, one behind the other: X, Y, X, Y, .. -/
def clF (s : ByteArray) (x y : Int) (k : Nat) : List Int := fr (fun c => if c % 2 = 0 then cX s x (c / 2) else cY s y (c / 2)) ((k + 1) * 2)
theorem clF_len (s : ByteArray) (x y : Int) (k : Nat) : (clF s x y k).length = (k + 1) * 2 := fr_length _ _
theorem clF_zero (s : ByteArray) (x y : Int) : clF s x y 0 = [x, y] := by
  unfold clF fr
  simp [List.range_succ, cX, cY]
theorem clF_snoc (s : ByteArray) (x y : Int) (k : Nat) : clF s x y k ++ [cX s x (k + 1), cY s y (k + 1)] = clF s x y (k + 1) := by
  unfold clF
  rw [show (k + 1 + 1) * 2 = (k + 1) * 2 + 1 + 1 by omega, ← fr_snoc, ← fr_snoc]
  rw [if_pos (by omega), if_neg (by omega), show (k + 1) * 2 / 2 = k + 1 by omega, show ((k + 1) * 2 + 1) / 2 = k + 1 by omega, List.append_assoc]
  rfl
theorem clF_x (s : ByteArray) (x y : Int) {k j : Nat} (h : j ≤ k) : (clF s x y k).getD (j * 2) 0 = cX s x j := by
  unfold clF
  rw [fr_get _ _ _ (by omega), if_pos (by omega), show j * 2 / 2 = j by omega]
theorem clF_y (s : ByteArray) (x y : Int) {k j : Nat} (h : j ≤ k) : (clF s x y k).getD (j * 2 + 1) 0 = cY s y j := by
  unfold clF
  rw [fr_get _ _ _ (by omega), if_neg (by omega), show (j * 2 + 1) / 2 = j by omega]
theorem okW_cell {s : ByteArray} {x y : Int} {k : Nat} (h0 : cellB x y = true) (h : okW s x y k = true) : cellB (cX s x k) (cY s y k) = true := by
  cases k with
  | zero => exact h0
  | succ k =>
    unfold okW at h
    rw [Bool.and_eq_true, Bool.and_eq_true] at h
    exact h.2.2
end Go.Proofs.Ytahnknbggacndaa
