/- Pack 14 of what FnPathsReflected needs: Area, Back. -/
import Derived.Test.YtachijliaedndaaKFnPathsReflected13
/- The sum of the heights. -/
namespace Go.Proofs.Ytachijliaedndaa
open Go.RowKit
/-- the sum of the first k heights -/
def areaTo (s : ByteArray) : Nat → Int
  | 0 => 0
  | k + 1 => areaTo s k + hAt s k
theorem areaTo_bd (s : ByteArray) (h40 : s.size ≤ 40) : ∀ k, k ≤ s.size + 1 → -(40 * (k : Int)) ≤ areaTo s k ∧ areaTo s k ≤ 40 * k := by
  intro k
  induction k with
  | zero => intro _; simp [areaTo]
  | succ k ih =>
    intro h
    have h1 := ih (by omega)
    have h2 := hAt_bd s k (by omega)
    unfold areaTo
    omega
def areaV (s : ByteArray) : Int := if pathB s then areaTo s (s.size + 1) else 0
end Go.Proofs.Ytachijliaedndaa

/- BackPath. -/
namespace Go.Proofs.Ytachijliaedndaa
open Go.RowKit
/-- the list with the first k and the last k exchanged, each for the one across -/
def revTo (l : List UInt8) (k : Nat) : List UInt8 := (List.range l.length).map fun j => if j < k ∨ l.length - k ≤ j then l.getD (l.length - 1 - j) 0 else l.getD j 0
theorem revTo_length (l : List UInt8) (k : Nat) : (revTo l k).length = l.length := by simp [revTo]
theorem revTo_get (l : List UInt8) (k j : Nat) (h : j < l.length) : (revTo l k)[j]? = some (if j < k ∨ l.length - k ≤ j then l.getD (l.length - 1 - j) 0 else l.getD j 0) := by
  unfold revTo; rw [List.getElem?_map, List.getElem?_range h]; rfl
theorem revTo_zero (l : List UInt8) : revTo l 0 = l := by
  apply List.ext_getElem?
  intro j
  by_cases h : j < l.length
  · rw [revTo_get l 0 j h, if_neg (by omega), List.getD_eq_getElem?_getD, List.getElem?_eq_getElem h]; rfl
  · rw [List.getElem?_eq_none (by rw [revTo_length]; omega), List.getElem?_eq_none (by omega)]
theorem revTo_full (l : List UInt8) (k : Nat) (h : l.length ≤ 2 * k + 1) : revTo l k = l.reverse := by
  apply List.ext_getElem?
  intro j
  by_cases hj : j < l.length
  · rw [revTo_get l k j hj, List.getElem?_reverse hj]
    by_cases c : j < k ∨ l.length - k ≤ j
    · rw [if_pos c, List.getD_eq_getElem?_getD, List.getElem?_eq_getElem (by omega)]; rfl
    · rw [if_neg c]
      have : l.length - 1 - j = j := by omega
      rw [this, List.getD_eq_getElem?_getD, List.getElem?_eq_getElem hj]; rfl
  · rw [List.getElem?_eq_none (by rw [revTo_length]; omega), List.getElem?_eq_none (by simp; omega)]
theorem revTo_step (l : List UInt8) (k : Nat) (h : k < l.length - 1 - k) : ((revTo l k).set k (l.getD (l.length - 1 - k) 0)).set (l.length - 1 - k) (l.getD k 0) = revTo l (k + 1) := by
  apply List.ext_getElem?
  intro j
  by_cases hj : j < l.length
  · rw [revTo_get l (k + 1) j hj, List.getElem?_set, List.getElem?_set, List.length_set, revTo_length]
    by_cases e1 : l.length - 1 - k = j
    · rw [if_pos e1, if_pos (by omega), if_pos (by omega)]
      have : l.length - 1 - j = k := by omega
      rw [this]
    · rw [if_neg e1]
      by_cases e2 : k = j
      · rw [if_pos e2, if_pos (by omega), if_pos (by omega), e2]
      · rw [if_neg e2, revTo_get l k j hj]
        by_cases c : j < k ∨ l.length - k ≤ j
        · rw [if_pos c, if_pos (by omega)]
        · rw [if_neg c, if_neg (by omega)]
  · rw [List.getElem?_eq_none (by simp [revTo_length]; omega), List.getElem?_eq_none (by rw [revTo_length]; omega)]
theorem revTo_at (l : List UInt8) (k j : Nat) (hj : j < l.length) (h : ¬ (j < k ∨ l.length - k ≤ j)) (h' : j < (revTo l k).length) : (revTo l k)[j] = l.getD j 0 := by
  rw [(List.getElem_eq_iff h').2 (revTo_get l k j hj), if_neg h]
def backS (s : ByteArray) : ByteArray := strOf (turnS s).data.toList.reverse
def backV (s : ByteArray) : ByteArray := if pathB s then backS s else strOf []
theorem backV_is (s : ByteArray) : strOf (turnV s).data.toList.reverse = backV s := by
  unfold backV turnV
  split
  · rfl
  · rw [strOf_list]; rfl
theorem turnV_size (s : ByteArray) : (turnV s).size ≤ 40 := by
  unfold turnV
  split
  · rename_i h; rw [turnS_size]; exact ((pathB_iff s).1 h).1
  · rw [strOf_size]; simp
end Go.Proofs.Ytachijliaedndaa
