/- Returns of a path. -/
import Derived.Test.YtgajknnfmnnfeaaScalars
namespace Go.Proofs.Ytgajknnfmnnfeaa
open Go.RowKit
def retAt (s : ByteArray) (k : Nat) : Bool := decide (0 < k) && (hAt s k == 0)
def retsTo (s : ByteArray) : Nat → List Int
  | 0 => []
  | k + 1 => if retAt s k then retsTo s k ++ [(k : Int)] else retsTo s k
theorem retsTo_len (s : ByteArray) : ∀ k, (retsTo s k).length ≤ k := by
  intro k
  induction k with
  | zero => simp [retsTo]
  | succ k ih => unfold retsTo; split
                 · rw [List.length_append]; simp; omega
                 · omega
theorem retsTo_yes {s : ByteArray} {k : Nat} (h : retAt s k = true) : retsTo s (k + 1) = retsTo s k ++ [(k : Int)] := by rw [retsTo, if_pos h]
theorem retsTo_no {s : ByteArray} {k : Nat} (h : retAt s k = false) : retsTo s (k + 1) = retsTo s k := by rw [retsTo, h]; rfl
theorem rt_yes {s : ByteArray} {k : Nat} (h1 : 0 < k) (h2 : (hAt s k == 0) = true) : retAt s k = true := by unfold retAt; rw [h2, decide_eq_true h1]; rfl
theorem rt_no2 {s : ByteArray} {k : Nat} (h2 : (hAt s k == 0) = false) : retAt s k = false := by unfold retAt; rw [h2, Bool.and_false]
theorem rt_no1 {s : ByteArray} {k : Nat} (h1 : ¬ 0 < k) : retAt s k = false := by unfold retAt; rw [decide_eq_false h1]; rfl
def retsV (s : ByteArray) : List Int := if pathB s then retsTo s (s.size + 1) else []
theorem retsV_len (s : ByteArray) (h : ¬ 1048576 < s.size) : (retsV s).length ≤ 1048577 := by
  unfold retsV; split
  · have := retsTo_len s (s.size + 1); omega
  · simp
end Go.Proofs.Ytgajknnfmnnfeaa
