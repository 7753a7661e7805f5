/- Pack 4 of what FnExactVotesOfTable needs: PathOk, InB. -/
import Derived.Test.YtmfcknlpbliehaaDoorKFnExactVotesOfTable3
import Derived.Test.YtmfcknlpbliehaaDoorProg
import Derived.WalkKit
import Derived.WalkSpells
import Derived.WalkLawsBesides
import Derived.Lib.Hide
/- IsPath and paGood, the two tests for a path. -/
namespace Go.Proofs.YtmfcknlpbliehaaDoor
open Go.RowKit

/-- the first k bytes are steps -/
def UpTo (s : ByteArray) (k : Nat) : Prop := ∀ j (h : j < s.size), j < k → isUD s[j] = true
theorem UpTo.zero (s : ByteArray) : UpTo s 0 := fun _ _ h => absurd h (by omega)
theorem UpTo.succ {s : ByteArray} {k : Nat} (h : UpTo s k) (hk : k < s.size) (hu : isUD s[k] = true) : UpTo s (k + 1) := fun j hj hl => by
  by_cases e : j = k
  · subst e; exact hu
  · exact h j hj (by omega)
theorem UpTo.full {s : ByteArray} {k : Nat} (h : UpTo s k) (hk : k = s.size) (h40 : s.size ≤ 40) : pathB s = true :=
  (pathB_iff s).2 ⟨h40, fun j hj => h j hj (by omega)⟩
theorem pathB_no {s : ByteArray} {k : Nat} (hk : k < s.size) (hu : isUD s[k] = false) : pathB s = false := by
  rw [Bool.eq_false_iff]
  intro h
  rw [((pathB_iff s).1 h).2 k hk] at hu
  exact absurd hu (by simp)
theorem ret_bool {a b : Bool} (h : a = b) : Ending.returned (.bool a) = .returned (.bool b) := by rw [h]
theorem ret_bb {a b c d : Bool} (h : a = b) (k : c = d) : Ending.returned (.tuple #[.bool a, .bool c]) = .returned (.tuple #[.bool b, .bool d]) := by rw [h, k]
theorem ret_ib {a b : Int} {c d : Bool} (h : a = b) (k : c = d) : Ending.returned (.tuple #[.int .i64 a, .bool c]) = .returned (.tuple #[.int .i64 b, .bool d]) := by rw [h, k]
theorem isUD_int (c : UInt8) : isUD c = (((c.toNat : Int) == 85) || ((c.toNat : Int) == 68)) := by
  unfold isUD
  have h1 : (c == 85) = ((c.toNat : Int) == 85) := by
    rw [Bool.eq_iff_iff]; simp [← UInt8.toNat_inj]; omega
  have h2 : (c == 68) = ((c.toNat : Int) == 68) := by
    rw [Bool.eq_iff_iff]; simp [← UInt8.toNat_inj]; omega
  rw [h1, h2]
theorem ud1 {c : UInt8} (h : (c.toNat : Int) = 85) : isUD c = true := by rw [isUD_int]; simp [h]
theorem ud2 {c : UInt8} (h : ((c.toNat : Int) != 85) = false ∨ ((c.toNat : Int) != 68) = false) : isUD c = true := by
  rw [isUD_int]; simpa [bne] using h
theorem ud0 {c : UInt8} (h : ((c.toNat : Int) != 85) = true ∧ ((c.toNat : Int) != 68) = true) : isUD c = false := by
  rw [isUD_int]; simpa [bne] using h

end Go.Proofs.YtmfcknlpbliehaaDoor

/- l1In: whether a number lies between two. -/
namespace Go.Proofs.YtmfcknlpbliehaaDoor
open Go.RowKit
def inB (a lo hi : Int) : Bool := decide (lo ≤ a) && decide (a ≤ hi)
theorem inB_yes {a lo hi : Int} (h : lo ≤ a ∧ a ≤ hi) : inB a lo hi = true := by simp [inB, h]
theorem inB_no {a lo hi : Int} (h : ¬ (lo ≤ a ∧ a ≤ hi)) : inB a lo hi = false := by
  rw [Bool.eq_false_iff]; intro e; simp [inB] at e; exact h e
set_option maxHeartbeats 400000 in
theorem in_any (a lo hi : Int) (w : World) : Calls Tryd.prog 22 #[.int .i64 a, .int .i64 lo, .int .i64 hi] w fun e w' => e = .returned (.bool (inB a lo hi)) ∧ w = w' := by
  by_cases h1 : lo ≤ a
  · by_cases h2 : a ≤ hi
    · rw [inB_yes ⟨h1, h2⟩]
      go_enter Tryd.func22, Tryd.ntmps22
      go_wp2
      go_ret
      exact ⟨rfl, rfl⟩
    · rw [inB_no (fun h => h2 h.2)]
      go_enter Tryd.func22, Tryd.ntmps22
      go_wp2
      go_ret
      exact ⟨rfl, rfl⟩
  · rw [inB_no (fun h => h1 h.1)]
    go_enter Tryd.func22, Tryd.ntmps22
    go_wp2
    go_ret
    exact ⟨rfl, rfl⟩
end Go.Proofs.YtmfcknlpbliehaaDoor
