/- Pack 1 of what FnRecordsTold needs: Math, PathOk. -/
import Derived.WalkKit
import Derived.Test.YtachijliaedndaaProg
import Derived.WalkSpells
import Derived.WalkLawsBesides
import Derived.Lib.Hide
/- Plain facts on lists of bytes and numbers: what the paths' functions compute. -/
namespace Go.Proofs.Ytachijliaedndaa
open Go.RowKit

def isUD (c : UInt8) : Bool := c == 85 || c == 68
def pathB (s : ByteArray) : Bool := decide (s.size ≤ 40) && s.data.toList.all isUD

theorem take_snoc (s : ByteArray) (k : Nat) (h : k < s.size) : s.data.toList.take (k + 1) = s.data.toList.take k ++ [s[k]] := by
  rw [List.take_succ_eq_append_getElem (by simpa using h)]; rfl

theorem pathB_iff (s : ByteArray) : pathB s = true ↔ s.size ≤ 40 ∧ ∀ k (h : k < s.size), isUD s[k] = true := by
  unfold pathB
  rw [Bool.and_eq_true, decide_eq_true_iff, List.all_eq_true]
  constructor
  · rintro ⟨h1, h2⟩
    exact ⟨h1, fun k h => h2 _ (by
      have : s[k] = s.data.toList[k]'(by simpa using h) := rfl
      rw [this]; exact List.getElem_mem _)⟩
  · rintro ⟨h1, h2⟩
    refine ⟨h1, fun x hx => ?_⟩
    obtain ⟨i, hi, rfl⟩ := List.mem_iff_getElem.1 hx
    exact h2 i (by simpa using hi)

end Go.Proofs.Ytachijliaedndaa

/- IsPath and paGood, the two tests for a path. -/
namespace Go.Proofs.Ytachijliaedndaa
open Go.RowKit

/-- the first k bytes are steps -/
def UpTo (s : ByteArray) (k : Nat) : Prop := ∀ j (h : j < s.size), j < k → isUD s[j] = true
theorem UpTo.zero (s : ByteArray) : UpTo s 0 := fun _ _ h => absurd h (by omega)
theorem UpTo.succ {s : ByteArray} {k : Nat} (h : UpTo s k) (hk : k < s.size) (hu : isUD s[k] = true) : UpTo s (k + 1) := fun j hj hl => by
  by_cases e : j = k
  · subst e; exact hu
  · exact h j hj (by omega)
theorem UpTo.full {s : ByteArray} {k : Nat} (h : UpTo s k) (hk : k = s.size) (h40 : s.size ≤ 40) : pathB s = true :=
  (pathB_iff s).2 ⟨h40, fun j hj => h j hj (by omega)⟩
theorem pathB_no {s : ByteArray} {k : Nat} (hk : k < s.size) (hu : isUD s[k] = false) : pathB s = false := by
  rw [Bool.eq_false_iff]
  intro h
  rw [((pathB_iff s).1 h).2 k hk] at hu
  exact absurd hu (by simp)
theorem ret_bool {a b : Bool} (h : a = b) : Ending.returned (.bool a) = .returned (.bool b) := by rw [h]
theorem ret_bb {a b c d : Bool} (h : a = b) (k : c = d) : Ending.returned (.tuple #[.bool a, .bool c]) = .returned (.tuple #[.bool b, .bool d]) := by rw [h, k]
theorem ret_ib {a b : Int} {c d : Bool} (h : a = b) (k : c = d) : Ending.returned (.tuple #[.int .i64 a, .bool c]) = .returned (.tuple #[.int .i64 b, .bool d]) := by rw [h, k]
theorem isUD_int (c : UInt8) : isUD c = (((c.toNat : Int) == 85) || ((c.toNat : Int) == 68)) := by
  unfold isUD
  have h1 : (c == 85) = ((c.toNat : Int) == 85) := by
    rw [Bool.eq_iff_iff]; simp [← UInt8.toNat_inj]; omega
  have h2 : (c == 68) = ((c.toNat : Int) == 68) := by
    rw [Bool.eq_iff_iff]; simp [← UInt8.toNat_inj]; omega
  rw [h1, h2]
theorem ud1 {c : UInt8} (h : (c.toNat : Int) = 85) : isUD c = true := by rw [isUD_int]; simp [h]
theorem ud2 {c : UInt8} (h : ((c.toNat : Int) != 85) = false ∨ ((c.toNat : Int) != 68) = false) : isUD c = true := by
  rw [isUD_int]; simpa [bne] using h
theorem ud0 {c : UInt8} (h : ((c.toNat : Int) != 85) = true ∧ ((c.toNat : Int) != 68) = true) : isUD c = false := by
  rw [isUD_int]; simpa [bne] using h

set_option maxHeartbeats 400000 in
theorem isPath_any (s : ByteArray) (w : World) (hs : s.size ≤ maxLen) :
    Calls Try.prog 58 #[.string s] w fun e w' => e = .returned (.bool (pathB s)) ∧ w = w' := by
  unfold maxLen at hs
  by_cases h40 : 40 < s.size
  · go_enter Try.func58, Try.ntmps58
    go_wp2
    go_ret
    exact ⟨by simp [pathB]; omega, rfl⟩
  · go_enter Try.func58, Try.ntmps58
    go_wp2
    go_loop [9] (fun i => ∃ k : Nat, k ≤ s.size ∧ i = .int .i64 k ∧ UpTo s k) (fun i => s.size - (intOf i).toNat)
    case atStart => exact ⟨0, Nat.zero_le _, rfl, UpTo.zero s⟩
    case round =>
      obtain ⟨k, hk, rfl, hu⟩ := hrel
      by_cases hlt : k < s.size
      · go_wp2
        · go_round
          case rel => exact ⟨k + 1, by omega, by go_num, hu.succ hlt (ud1 (by assumption))⟩
          case measure => simp [intOf]; omega
        · go_ret
          exact ⟨ret_bool (pathB_no hlt (ud0 (by assumption))).symm, rfl⟩
        · go_round
          case rel => exact ⟨k + 1, by omega, by go_num, hu.succ hlt (ud2 (by assumption))⟩
          case measure => simp [intOf]; omega
      · go_wp2
        go_ret
        exact ⟨ret_bool (hu.full (by omega) (by omega)).symm, rfl⟩

set_option maxHeartbeats 400000 in
theorem paGood_any (s : ByteArray) (w : World) (hs : s.size ≤ maxLen) :
    Calls Try.prog 143 #[.string s] w fun e w' => e = .returned (.bool (pathB s)) ∧ w = w' := by
  unfold maxLen at hs
  by_cases h40 : 40 < s.size
  · go_enter Try.func143, Try.ntmps143
    go_wp2
    go_ret
    exact ⟨by simp [pathB]; omega, rfl⟩
  · go_enter Try.func143, Try.ntmps143
    go_wp2
    go_loop [3] (fun i => ∃ k : Nat, k ≤ s.size ∧ i = .int .i64 k ∧ UpTo s k) (fun i => s.size - (intOf i).toNat)
    case atStart => exact ⟨0, Nat.zero_le _, rfl, UpTo.zero s⟩
    case round =>
      obtain ⟨k, hk, rfl, hu⟩ := hrel
      by_cases hlt : k < s.size
      · go_wp2
        · go_round
          case rel => exact ⟨k + 1, by omega, by go_num, hu.succ hlt (ud1 (by assumption))⟩
          case measure => simp [intOf]; omega
        · go_ret
          exact ⟨ret_bool (pathB_no hlt (ud0 (by assumption))).symm, rfl⟩
        · go_round
          case rel => exact ⟨k + 1, by omega, by go_num, hu.succ hlt (ud2 (by assumption))⟩
          case measure => simp [intOf]; omega
      · go_wp2
        go_ret
        exact ⟨ret_bool (hu.full (by omega) (by omega)).symm, rfl⟩

end Go.Proofs.Ytachijliaedndaa
