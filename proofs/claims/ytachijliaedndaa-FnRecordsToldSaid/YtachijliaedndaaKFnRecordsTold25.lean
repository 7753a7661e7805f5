/- Pack 25 of what FnRecordsTold needs: RtMath, RcI. -/
import Derived.Test.YtachijliaedndaaKFnRecordsTold24
/- Records, steps above and last returns: what the law asks of their numbers, by the kernel. -/
namespace Go.Proofs.Ytachijliaedndaa
open Go.RowKit
set_option linter.unusedVariables false
theorem rt_all : ∀ m < 16, (fr (abF m) (m + 1)).sum = 4 ^ m ∧ nbF m = cntV m m ∧ cntOk m m = true ∧ abF m 0 = nbF m ∧ abF m m = nbF m ∧ 0 ≤ nbF m ∧ nbF m ≤ 1073741824 ∧ (4 : Int) ^ m ≤ 1073741824 := by decide +kernel
theorem rt_sym : ∀ m < 16, ∀ k < m + 1, abF m k = abF m (m - k) ∧ 0 ≤ abF m k ∧ abF m k ≤ 1073741824 := by decide +kernel
/-- what is summed up on the way stays small -/
theorem rt_part : ∀ m < 16, ∀ k < m + 2, 0 ≤ (fr (abF m) k).sum ∧ (fr (abF m) k).sum ≤ 1073741824 := by decide +kernel
theorem rt_chok : ∀ m < 16, chOk (m : Nat) = true := by decide +kernel
theorem rt_high {m : Nat} (h : m < 16) : chV m = fr (rrF m) (m + 1) := by
  unfold chV
  rw [if_pos (rt_chok m h)]
  rfl
end Go.Proofs.Ytachijliaedndaa

/- RecordsOfPath, StepsAbove: mathematics. -/
namespace Go.Proofs.Ytachijliaedndaa
open Go.RowKit
set_option linter.unusedVariables false
def recTo (s : ByteArray) : Nat → List Int
  | 0 => []
  | k + 1 => if ((recTo s k).length : Int) < hAt s k then recTo s k ++ [(k : Int)] else recTo s k
theorem recTo_len (s : ByteArray) : ∀ k, (recTo s k).length ≤ k
  | 0 => by simp [recTo]
  | k + 1 => by
    have := recTo_len s k
    rw [recTo]
    split
    · rw [List.length_append]; simp; omega
    · omega
theorem recTo_yes {s : ByteArray} {k : Nat} (h : ((recTo s k).length : Int) < hAt s k) : recTo s (k + 1) = recTo s k ++ [(k : Int)] := by rw [recTo, if_pos h]
theorem recTo_no {s : ByteArray} {k : Nat} (h : ¬ ((recTo s k).length : Int) < hAt s k) : recTo s (k + 1) = recTo s k := by rw [recTo, if_neg h]
theorem hAt_up (s : ByteArray) (k : Nat) : hAt s (k + 1) ≤ hAt s k + 1 := by
  by_cases h : k < s.size
  · rw [hAt_succ s k h]
    have := stepZ_bd (s[k].toNat : Int)
    unfold stepI
    omega
  · have hl : s.data.toList.length = s.size := Array.length_toList
    have e : hAt s (k + 1) = hAt s k := by
      unfold hAt
      rw [List.take_of_length_le (by omega), List.take_of_length_le (by omega)]
    omega
theorem rec_most (s : ByteArray) : ∀ k, hAt s k ≤ ((recTo s k).length : Int) + 1 ∧ hAt s k ≤ ((recTo s (k + 1)).length : Int)
  | 0 => by
    have h0 : hAt s 0 = 0 := rfl
    rw [h0]
    exact ⟨by omega, by omega⟩
  | k + 1 => by
    have h1 := (rec_most s k).2
    have h2 := hAt_up s k
    refine ⟨by omega, ?_⟩
    by_cases h : ((recTo s (k + 1)).length : Int) < hAt s (k + 1)
    · rw [recTo_yes h, List.length_append]
      simp
      omega
    · rw [recTo_no h]
      omega
def recV (s : ByteArray) : List Int := if pathB s = true then recTo s (s.size + 1) else []
theorem recV_len (s : ByteArray) (h : ¬ 1048576 < s.size) : (recV s).length ≤ 1048577 := by
  unfold recV
  split
  · have := recTo_len s (s.size + 1); omega
  · simp
/-- steps above among the first k -/
def abvTo (s : ByteArray) : Nat → Int
  | 0 => 0
  | k + 1 => if 0 ≤ hAt s k ∧ 0 ≤ hAt s (k + 1) then abvTo s k + 1 else abvTo s k
theorem abvTo_bd (s : ByteArray) : ∀ k : Nat, 0 ≤ abvTo s k ∧ abvTo s k ≤ k
  | 0 => by simp [abvTo]
  | k + 1 => by
    have := abvTo_bd s k
    rw [abvTo]
    split <;> omega
theorem abw_yes {s : ByteArray} {k : Nat} (h : 0 ≤ hAt s k ∧ 0 ≤ hAt s (k + 1)) : abvTo s (k + 1) = abvTo s k + 1 := by rw [abvTo, if_pos h]
theorem abw_no {s : ByteArray} {k : Nat} (h : ¬ (0 ≤ hAt s k ∧ 0 ≤ hAt s (k + 1))) : abvTo s (k + 1) = abvTo s k := by rw [abvTo, if_neg h]
def abvV (s : ByteArray) : Int := if pathB s = true then abvTo s s.size else 0
end Go.Proofs.Ytachijliaedndaa
