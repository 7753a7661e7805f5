/- Runs of a path: plain lists. -/
import Derived.Test.YtdekjmbbogddgabRankMath
import Derived.Test.YtdekjmbbogddgabTurn
namespace Go.Proofs.Ytdekjmbbogddgab
open Go.RowKit
/-- how many bytes at the head are c -/
def leadLen (c : UInt8) : List UInt8 → Nat
  | [] => 0
  | x :: l => if x == c then leadLen c l + 1 else 0
theorem leadLen_le (c : UInt8) : ∀ l : List UInt8, leadLen c l ≤ l.length
  | [] => by simp [leadLen]
  | x :: l => by
    have := leadLen_le c l
    unfold leadLen; split <;> simp <;> omega
theorem leadLen_yes {c x : UInt8} {l : List UInt8} (h : (x == c) = true) : leadLen c (x :: l) = leadLen c l + 1 := by rw [leadLen, if_pos h]
theorem leadLen_no {c x : UInt8} {l : List UInt8} (h : (x == c) = false) : leadLen c (x :: l) = 0 := by rw [leadLen, h]; rfl
theorem drop_cons' (s : ByteArray) (k : Nat) (h : k < s.size) : s.data.toList.drop k = s[k] :: s.data.toList.drop (k + 1) := by
  rw [List.drop_eq_getElem_cons (by simpa using h)]; rfl
theorem drop_len' (s : ByteArray) (k : Nat) : (s.data.toList.drop k).length = s.size - k := by simp
/-- the end of the run that begins at k -/
def eor (s : ByteArray) (k : Nat) : Nat := if h : k < s.size then k + leadLen s[k] (s.data.toList.drop k) else k
theorem eor_lt {s : ByteArray} {k : Nat} (h : k < s.size) : k < eor s k ∧ eor s k ≤ s.size := by
  unfold eor
  rw [dif_pos h]
  have h1 := leadLen_le s[k] (s.data.toList.drop k)
  rw [drop_len'] at h1
  have h2 : leadLen s[k] (s.data.toList.drop k) = leadLen s[k] (s.data.toList.drop (k + 1)) + 1 := by
    rw [drop_cons' s k h, leadLen_yes (by simp)]
  omega
theorem eor_end (s : ByteArray) : eor s s.size = s.size := by unfold eor; rw [dif_neg (by omega)]
/-- the lengths of runs by turns, c first -/
def rsL : Nat → UInt8 → List UInt8 → List Int
  | 0, _, _ => []
  | f + 1, c, l => if l = [] then [] else (leadLen c l : Nat) :: rsL f (turnC c) (l.drop (leadLen c l))
theorem lead_next (c : UInt8) : ∀ (l : List UInt8), (∀ x ∈ l, x = 85 ∨ x = 68) → (c = 85 ∨ c = 68) → l.drop (leadLen c l) = [] ∨ ∃ r, l.drop (leadLen c l) = turnC c :: r
  | [], _, _ => by simp [leadLen]
  | x :: l, h, hc => by
    by_cases e : (x == c) = true
    · rw [leadLen_yes e, List.drop_succ_cons]
      exact lead_next c l (fun y hy => h y (List.mem_cons_of_mem _ hy)) hc
    · have e' : (x == c) = false := by simpa using e
      rw [leadLen_no e', List.drop_zero]
      right
      refine ⟨l, ?_⟩
      have hx := h x (List.mem_cons_self ..)
      congr 1
      rcases hx with rfl | rfl <;> rcases hc with rfl | rfl <;> first | rfl | (simp at e')
end Go.Proofs.Ytdekjmbbogddgab
