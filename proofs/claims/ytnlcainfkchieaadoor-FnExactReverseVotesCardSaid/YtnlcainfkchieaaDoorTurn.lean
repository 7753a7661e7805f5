/- TurnPath: U and D exchanged. -/
import Derived.Test.YtnlcainfkchieaaDoorPathOk
import Derived.Test.YtnlcainfkchieaaDoorBytes
namespace Go.Proofs.YtnlcainfkchieaaDoor
open Go.RowKit
def turnC (c : UInt8) : UInt8 := if c == 85 then 68 else 85
def otherZ (x : Int) : Int := if x = 85 then 68 else 85
theorem turnC_int (c : UInt8) : ((turnC c).toNat : Int) = otherZ (c.toNat : Int) := by
  unfold turnC otherZ
  have : (c == 85) = ((c.toNat : Int) == 85) := by
    rw [Bool.eq_iff_iff]; simp [← UInt8.toNat_inj]; omega
  rw [this]
  by_cases h : (c.toNat : Int) = 85
  · simp [h]
  · rw [if_neg (by simpa using h), if_neg h]; rfl
def turnL (l : List UInt8) : List UInt8 := l.map turnC
theorem turnL_length (l : List UInt8) : (turnL l).length = l.length := by simp [turnL]
/-- the first k turned, behind them what r holds -/
def turnTo (s : ByteArray) (r : List UInt8) (k : Nat) : List UInt8 := (turnL s.data.toList).take k ++ r.drop k
theorem turnTo_length (s : ByteArray) (r : List UInt8) (hr : r.length = s.size) (k : Nat) : (turnTo s r k).length = s.size := by
  simp [turnTo, turnL, hr]; omega
theorem turnTo_full (s : ByteArray) (r : List UInt8) (hr : r.length = s.size) : turnTo s r s.size = turnL s.data.toList := by
  unfold turnTo
  rw [List.take_of_length_le (by simp [turnL]), List.drop_of_length_le (by omega), List.append_nil]
theorem turnTo_set (s : ByteArray) (r : List UInt8) (hr : r.length = s.size) (k : Nat) (hk : k < s.size) : (turnTo s r k).set k (turnC s[k]) = turnTo s r (k + 1) := by
  have hl : s.data.toList.length = s.size := by simp
  have h1 : (turnL s.data.toList).length = s.size := by rw [turnL_length]; exact hl
  have e1 : (turnL s.data.toList).take (k + 1) = (turnL s.data.toList).take k ++ [turnC s[k]] := by
    rw [List.take_succ_eq_append_getElem (by omega)]
    simp [turnL]; rfl
  unfold turnTo
  rw [e1, List.set_append, List.length_take, if_neg (by omega)]
  have e2 : r.drop k = r[k]'(by omega) :: r.drop (k + 1) := List.drop_eq_getElem_cons (by omega)
  rw [e2, show k - min k (turnL s.data.toList).length = 0 by omega, List.set_cons_zero, List.append_assoc]
  rfl
theorem turnTo_at (s : ByteArray) (k : Nat) (hk : k < s.size) : (turnTo s s.data.toList k)[k]? = some s[k] := by
  have hl : s.data.toList.length = s.size := by simp
  have h1 : ((turnL s.data.toList).take k).length = k := by rw [List.length_take, turnL_length, hl]; omega
  unfold turnTo
  rw [List.getElem?_append_right (by omega), h1, Nat.sub_self, List.getElem?_drop, Nat.add_zero, List.getElem?_eq_getElem (by omega)]
  rfl
def turnS (s : ByteArray) : ByteArray := strOf (turnL s.data.toList)
theorem turnS_size (s : ByteArray) : (turnS s).size = s.size := by unfold turnS; rw [strOf_size, turnL_length]; simp
def turnV (s : ByteArray) : ByteArray := if pathB s then turnS s else strOf []
theorem other_yes {x : Int} (h : (x == 85) = true) : otherZ x = 68 := by unfold otherZ; rw [if_pos (by simpa using h)]
theorem other_no {x : Int} (h : (x == 85) = false) : otherZ x = 85 := by unfold otherZ; rw [if_neg (by simpa using h)]
end Go.Proofs.YtnlcainfkchieaaDoor
