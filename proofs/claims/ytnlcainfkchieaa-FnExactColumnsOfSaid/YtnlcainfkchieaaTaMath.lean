/- Tables of votes, columns, votes read by columns: plain numbers. -/
import Derived.Test.YtnlcainfkchieaaVoMath
import Derived.Test.YtnlcainfkchieaaResMath
namespace Go.Proofs.Ytnlcainfkchieaa
open Go.RowKit
set_option linter.unusedVariables false
/-- the numbers of the votes for i among the first k -/
def tbRow (s : ByteArray) (i : Nat) : Nat → List Int
  | 0 => []
  | k + 1 => if cd s k = i then tbRow s i k ++ [(k : Int) + 1] else tbRow s i k
def tbS (s : ByteArray) (k : Nat) : List (List Int) := [tbRow s 0 k, tbRow s 1 k, tbRow s 2 k, tbRow s 3 k]
theorem tbRow_len (s : ByteArray) (i : Nat) : ∀ k, (tbRow s i k).length = vc s i k
  | 0 => rfl
  | k + 1 => by
    rw [tbRow, vc, ← tbRow_len s i k]
    split
    · rw [List.length_append]; rfl
    · rfl
theorem tbS_len (s : ByteArray) (k : Nat) : (tbS s k).length = 4 := rfl
theorem tbS_zero (s : ByteArray) : tbS s 0 = List.replicate 4 [] := rfl
theorem tbS_get (s : ByteArray) (k c : Nat) (h : c < 4) : (tbS s k).getD c [] = tbRow s c k := by
  have : c = 0 ∨ c = 1 ∨ c = 2 ∨ c = 3 := by omega
  rcases this with e | e | e | e <;> subst e <;> rfl
theorem tbS_set (s : ByteArray) (k : Nat) (h : cd s k < 4) : (tbS s k).set (cd s k) (tbRow s (cd s k) k ++ [(k : Int) + 1]) = tbS s (k + 1) := by
  unfold tbS
  have : cd s k = 0 ∨ cd s k = 1 ∨ cd s k = 2 ∨ cd s k = 3 := by omega
  rcases this with e | e | e | e <;> simp [tbRow, e]
theorem tbS_size (s : ByteArray) (h : votB s = true) : (tbS s s.size).flatten.length = s.size := by
  have := vcS h (Nat.le_refl _)
  simp [tbS, tbRow_len]
  omega
/-- votes read by columns -/
def cvTo (s : ByteArray) : Nat → List UInt8
  | 0 => []
  | k + 1 => cvTo s k ++ [UInt8.ofNat (97 + vc s (cd s k) k)]
theorem cvTo_len (s : ByteArray) : ∀ k, (cvTo s k).length = k
  | 0 => rfl
  | k + 1 => by rw [cvTo, List.length_append, cvTo_len s k]; rfl
def colB (s : ByteArray) : Bool := oB s && decide (vc s 0 s.size ≤ 4)
theorem vc_mono2 (s : ByteArray) (c : Nat) {j : Nat} : ∀ k, j ≤ k → vc s c j ≤ vc s c k := by
  intro k
  induction k with
  | zero => intro h; rw [show j = 0 by omega]; omega
  | succ k ih =>
    intro h
    by_cases e : j = k + 1
    · rw [e]; omega
    · exact Nat.le_trans (ih (by omega)) (vc_mono s c k)
theorem oB_of {s : ByteArray} (h : oB s = true) : votB s = true ∧ foTo s s.size = 0 := by
  unfold oB at h; rw [Bool.and_eq_true, decide_eq_true_iff] at h; exact h
theorem oB_fall {s : ByteArray} (h : oB s = true) {k : Nat} (hk : k ≤ s.size) : vc s 1 k ≤ vc s 0 k ∧ vc s 2 k ≤ vc s 1 k ∧ vc s 3 k ≤ vc s 2 k :=
  (faB_iff s k).1 (fo_fall (fo_back (oB_of h).2 k hk))
theorem col_lt {s : ByteArray} (h : colB s = true) {k : Nat} (hk : k < s.size) : vc s (cd s k) k < 4 := by
  unfold colB at h
  rw [Bool.and_eq_true, decide_eq_true_iff] at h
  have hv := (oB_of h.1).1
  have hf := oB_fall h.1 (k := k + 1) (by omega)
  have hc := votB_lt hv k hk
  have hm := vc_mono2 s 0 (j := k + 1) s.size (by omega)
  have hh := vc_hit (s := s) (c := cd s k) (k := k) rfl
  have : cd s k = 0 ∨ cd s k = 1 ∨ cd s k = 2 ∨ cd s k = 3 := by omega
  rcases this with e | e | e | e <;> rw [e] at hh ⊢ <;> omega
/-- columns while the i-th number is read up to m -/
def colS (xs : List Int) (i m : Nat) : List Int := (List.range 4).map fun j : Nat => ((laN (j : Int) (xs.take i) : Nat) : Int) + if j < m then 1 else 0
theorem colS_len (xs : List Int) (i m : Nat) : (colS xs i m).length = 4 := by simp [colS]
theorem colS_get (xs : List Int) (i m c : Nat) (h : c < 4) : (colS xs i m).getD c 0 = ((laN (c : Int) (xs.take i) : Nat) : Int) + if c < m then 1 else 0 := by
  unfold colS
  rw [List.getD_eq_getElem?_getD, List.getElem?_map, List.getElem?_range h]
  rfl
theorem colS_set (xs : List Int) (i m : Nat) (h : m < 4) : (colS xs i m).set m ((colS xs i m).getD m 0 + 1) = colS xs i (m + 1) := by
  rw [colS_get xs i m m h, if_neg (by omega)]
  apply List.ext_getElem
  · simp [colS]
  · intro j h1 h2
    simp [colS] at h2
    rw [List.getElem_set]
    simp only [colS, List.getElem_map, List.getElem_range]
    by_cases e : m = j
    · subst e; rw [if_pos rfl, if_pos (by omega)]; omega
    · rw [if_neg e]
      by_cases e2 : j < m
      · rw [if_pos e2, if_pos (by omega)]
      · rw [if_neg e2, if_neg (by omega)]
theorem colS_next (xs : List Int) (i m : Nat) (hi : i < xs.length) (e : xs.getD i 0 = (m : Int)) : colS xs (i + 1) 0 = colS xs i m := by
  apply List.ext_getElem
  · simp [colS]
  · intro j h1 h2
    simp only [colS, List.getElem_map, List.getElem_range]
    rw [laN_take _ _ _ hi, e]
    have e0 : (if j < 0 then (1 : Int) else 0) = 0 := if_neg (by omega)
    rw [e0]
    by_cases q : j < m
    · rw [if_pos (show (j : Int) < (m : Int) by omega), if_pos q]; omega
    · rw [if_neg (show ¬ (j : Int) < (m : Int) by omega), if_neg q]; omega
theorem colS_zero (xs : List Int) : colS xs 0 0 = List.replicate 4 0 := by simp [colS, laN]; rfl
def clOk (xs : List Int) : Bool := resB xs && decide (xs.getD 0 0 ≤ 4)
end Go.Proofs.Ytnlcainfkchieaa
