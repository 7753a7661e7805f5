/- Rotations of a path, and which of them have more U than k times as many D in each beginning. -/
import Derived.Test.YtnlmjeakdjmohaaBalMath
namespace Go.Proofs.Ytnlmjeakdjmohaa
open Go.RowKit
set_option linter.unusedVariables false
theorem mg_bd40 (s : ByteArray) (k : Int) (hk : 0 ≤ k ∧ k ≤ 40) : ∀ j, j ≤ s.size → -(40 * (j : Int)) ≤ mg s k j ∧ mg s k j ≤ j
  | 0, _ => by rw [mg_zero]; omega
  | j + 1, h => by
    have h1 := mg_bd40 s k hk j (by omega)
    rw [mg_succ s k j (by omega)]
    unfold stepK
    split <;> omega
def rotL (s : ByteArray) (i : Nat) : List UInt8 := s.data.toList.drop i ++ s.data.toList.take i
def rotS (s : ByteArray) (i : Nat) : ByteArray := ⟨(rotL s i).toArray⟩
theorem rotS_size (s : ByteArray) (i : Nat) (h : i ≤ s.size) : (rotS s i).size = s.size := by
  have h1 : (rotS s i).size = (rotL s i).length := by simp [rotS, ByteArray.size]
  have h2 : s.data.toList.length = s.size := by simp
  rw [h1, rotL, List.length_append, List.length_drop, List.length_take]
  omega
theorem rotS_list (s : ByteArray) (i : Nat) : (rotS s i).data.toList = rotL s i := by simp [rotS]
/-- whether the rotation by i is good -/
def rgB (s : ByteArray) (k : Int) (i : Nat) : Bool := !(fbB (mg (rotS s i) k) 1 (s.size + 1))
def rgs (s : ByteArray) (k : Int) : Nat → List Int
  | 0 => []
  | i + 1 => if rgB s k i then rgs s k i ++ [(i : Int)] else rgs s k i
theorem rgs_length (s : ByteArray) (k : Int) : ∀ i, (rgs s k i).length ≤ i
  | 0 => by simp [rgs]
  | i + 1 => by
    have := rgs_length s k i
    rw [rgs]
    split
    · simp; omega
    · omega
/-- good up to here -/
def okTo (f : Nat → Int) (j : Nat) : Bool := !(fbB f 1 (j + 1))
theorem okTo_0 (f : Nat → Int) : okTo f 0 = true := by
  have : fb f 1 1 = -1 := fb_go (n := 0) rfl (.inl rfl)
  unfold okTo
  rw [fbB_no this]
  rfl
theorem okTo_succ (f : Nat → Int) (j : Nat) : okTo f (j + 1) = (okTo f j && decide (0 < f (j + 1))) := by
  unfold okTo
  have hb := fb_bd f 1 (j + 1)
  by_cases h : fb f 1 (j + 1) = -1
  · rw [fbB_no h]
    by_cases h2 : f (j + 1) < 1
    · have := fb_hit (n := j + 1) h (by omega) h2
      rw [fbB_yes this, decide_eq_false (by omega)]
      rfl
    · have := fb_go (n := j + 1) h (.inr h2)
      rw [fbB_no this, decide_eq_true (by omega)]
      rfl
  · have h3 : fbB f 1 (j + 1) = true := by unfold fbB; rw [decide_eq_true_iff]; omega
    have h4 := fb_keep (f := f) (least := 1) (n := j + 1) (by omega)
    have h5 : fbB f 1 (j + 1 + 1) = true := by unfold fbB; rw [decide_eq_true_iff, h4]; omega
    rw [h3, h5]
    rfl
def raOk (s : ByteArray) (k : Int) : Bool := pathB s && (decide (0 ≤ k) && decide (k ≤ 40))
def raV (s : ByteArray) (k : Int) : List Int := if raOk s k then rgs s k s.size else []
theorem raV_len (s : ByteArray) (k : Int) : (raV s k).length ≤ 1048577 := by
  unfold raV
  split
  · rename_i h
    unfold raOk at h
    rw [Bool.and_eq_true] at h
    have h1 := ((pathB_iff s).1 h.1).1
    have h2 := rgs_length s k s.size
    omega
  · simp
end Go.Proofs.Ytnlmjeakdjmohaa
