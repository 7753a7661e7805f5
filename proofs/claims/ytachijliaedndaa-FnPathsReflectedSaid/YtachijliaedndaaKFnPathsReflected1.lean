/- Pack 1 of what FnPathsReflected needs: Math, HtMath. -/
import Derived.WalkKit
/- Plain facts on lists of bytes and numbers: what the paths' functions compute. -/
namespace Go.Proofs.Ytachijliaedndaa
open Go.RowKit

def isUD (c : UInt8) : Bool := c == 85 || c == 68
def pathB (s : ByteArray) : Bool := decide (s.size ≤ 40) && s.data.toList.all isUD

theorem take_snoc (s : ByteArray) (k : Nat) (h : k < s.size) : s.data.toList.take (k + 1) = s.data.toList.take k ++ [s[k]] := by
  rw [List.take_succ_eq_append_getElem (by simpa using h)]; rfl

theorem pathB_iff (s : ByteArray) : pathB s = true ↔ s.size ≤ 40 ∧ ∀ k (h : k < s.size), isUD s[k] = true := by
  unfold pathB
  rw [Bool.and_eq_true, decide_eq_true_iff, List.all_eq_true]
  constructor
  · rintro ⟨h1, h2⟩
    exact ⟨h1, fun k h => h2 _ (by
      have : s[k] = s.data.toList[k]'(by simpa using h) := rfl
      rw [this]; exact List.getElem_mem _)⟩
  · rintro ⟨h1, h2⟩
    refine ⟨h1, fun x hx => ?_⟩
    obtain ⟨i, hi, rfl⟩ := List.mem_iff_getElem.1 hx
    exact h2 i (by simpa using hi)

end Go.Proofs.Ytachijliaedndaa

/- Heights of a path as plain numbers. -/
namespace Go.Proofs.Ytachijliaedndaa
open Go.RowKit

def stepZ (x : Int) : Int := if x = 85 then 1 else -1
def stepI (c : UInt8) : Int := stepZ (c.toNat : Int)
theorem stepZ_bd (x : Int) : -1 ≤ stepZ x ∧ stepZ x ≤ 1 := by unfold stepZ; split <;> omega

/-- the height behind k steps -/
def hAt (s : ByteArray) (k : Nat) : Int := ((s.data.toList.take k).map stepI).sum
theorem hAt_zero (s : ByteArray) : hAt s 0 = 0 := by simp [hAt]
theorem hAt_succ (s : ByteArray) (k : Nat) (h : k < s.size) : hAt s (k + 1) = hAt s k + stepI s[k] := by
  unfold hAt; rw [take_snoc s k h]; simp
theorem hAt_bd (s : ByteArray) : ∀ k, k ≤ s.size → -(k : Int) ≤ hAt s k ∧ hAt s k ≤ k := by
  intro k
  induction k with
  | zero => intro _; rw [hAt_zero]; omega
  | succ k ih =>
    intro h
    have h1 := ih (by omega)
    rw [hAt_succ s k (by omega)]
    have h2 := stepZ_bd (s[k].toNat : Int)
    unfold stepI
    omega
/-- all heights -/
def hts (s : ByteArray) : List Int := (List.range (s.size + 1)).map (hAt s)
theorem hts_length (s : ByteArray) : (hts s).length = s.size + 1 := by simp [hts]
theorem hts_get (s : ByteArray) (k : Nat) (h : k ≤ s.size) : (hts s)[k]? = some (hAt s k) := by
  unfold hts; rw [List.getElem?_map, List.getElem?_range (by omega)]; rfl
/-- the first k+1 heights -/
def htsTo (s : ByteArray) (k : Nat) : List Int := (List.range (k + 1)).map (hAt s)
theorem htsTo_length (s : ByteArray) (k : Nat) : (htsTo s k).length = k + 1 := by simp [htsTo]
theorem htsTo_last (s : ByteArray) (k : Nat) : (htsTo s k).getD k 0 = hAt s k := by
  unfold htsTo; rw [List.getD_eq_getElem?_getD, List.getElem?_map, List.getElem?_range (by omega)]; rfl
theorem htsTo_snoc (s : ByteArray) (k : Nat) : htsTo s k ++ [hAt s (k + 1)] = htsTo s (k + 1) := by
  unfold htsTo; rw [List.range_succ (n := k + 1), List.map_append]; rfl
/-- the first k+1 heights laid, the rest 0 -/
def filled (s : ByteArray) (k : Nat) : List Int := (List.range (s.size + 1)).map fun j => if j ≤ k then hAt s j else 0
theorem filled_length (s : ByteArray) (k : Nat) : (filled s k).length = s.size + 1 := by simp [filled]
theorem filled_get (s : ByteArray) (k j : Nat) (h : j ≤ s.size) : (filled s k)[j]? = some (if j ≤ k then hAt s j else 0) := by
  unfold filled; rw [List.getElem?_map, List.getElem?_range (by omega)]; rfl
theorem filled_zero (s : ByteArray) : filled s 0 = List.replicate (s.size + 1) 0 := by
  apply List.ext_getElem
  · simp [filled]
  · intro i h1 h2
    simp [filled]
    intro h; subst h; exact hAt_zero s
theorem filled_set (s : ByteArray) (k : Nat) : (filled s k).set (k + 1) (hAt s (k + 1)) = filled s (k + 1) := by
  apply List.ext_getElem
  · simp [filled]
  · intro i h1 h2
    simp [filled, List.getElem_set]
    by_cases e : k + 1 = i
    · subst e; simp
    · rw [if_neg e]
      by_cases e2 : i ≤ k
      · rw [if_pos e2, if_pos (by omega)]
      · rw [if_neg e2, if_neg (by omega)]
theorem filled_full (s : ByteArray) : filled s s.size = hts s := by
  unfold filled hts
  apply List.map_congr_left
  intro j hj
  rw [if_pos (by have := List.mem_range.1 hj; omega)]

end Go.Proofs.Ytachijliaedndaa
