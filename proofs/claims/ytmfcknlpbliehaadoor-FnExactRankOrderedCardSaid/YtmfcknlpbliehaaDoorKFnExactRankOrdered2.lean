/- Pack 2 of what FnExactRankOrdered needs: LFnExactRankOrdered, Math. -/
import Derived.Test.YtmfcknlpbliehaaDoorKFnExactRankOrdered1
import Derived.WalkKit
/- The walk of FnExactRankOrdered: it asks the model and the program and holds them against each other. -/
namespace Go.Proofs.YtmfcknlpbliehaaDoor
open Go.RowKit

set_option maxHeartbeats 1000000 in
theorem wFnExactRankOrdered_main (a0 : ByteArray) (ok : Bool) (x0 : Int)
    (hS : Hid (∀ w, Calls Tryd.prog 5 #[.string a0] w (Ret w (.tuple #[.int .i64 x0, .bool ok])))) (hI : Hid (∀ w, Calls Tryd.prog 6 #[.string a0] w (Ret w (.tuple #[.int .i64 x0, .bool ok])))) (w : World) (hz0 : ¬ 1048576 < a0.size) :
    Calls Tryd.prog 3 #[.string a0] w fun e w' => e = .returned (.bool true) ∧ Below w.heap.size w w' := by
  go_enter Tryd.func3, Tryd.ntmps3
  go_wp2_with fail
  refine (hS.out _).mono ?_
  rintro e w1 ⟨rfl, hb0⟩
  go_wp2_with fail
  refine (hI.out _).mono ?_
  rintro e w2 ⟨rfl, hb1⟩
  go_wp2_with fail
  go_ret
  exact ⟨rfl, hb0.trans (hb1.mono hb0.size)⟩

set_option maxHeartbeats 400000 in
theorem wFnExactRankOrdered_big (a0 : ByteArray) (w : World) (hb : 1048576 < a0.size) :
    Calls Tryd.prog 3 #[.string a0] w fun e w' => e = .returned (.bool true) ∧ Below w.heap.size w w' := by
  go_enter Tryd.func3, Tryd.ntmps3
  go_wp2
  go_ret
  exact ⟨rfl, Below.refl _ _⟩

end Go.Proofs.YtmfcknlpbliehaaDoor

/- Plain facts on lists of bytes and numbers: what the paths' functions compute. -/
namespace Go.Proofs.YtmfcknlpbliehaaDoor
open Go.RowKit

def isUD (c : UInt8) : Bool := c == 85 || c == 68
def pathB (s : ByteArray) : Bool := decide (s.size ≤ 40) && s.data.toList.all isUD

theorem take_snoc (s : ByteArray) (k : Nat) (h : k < s.size) : s.data.toList.take (k + 1) = s.data.toList.take k ++ [s[k]] := by
  rw [List.take_succ_eq_append_getElem (by simpa using h)]; rfl

theorem pathB_iff (s : ByteArray) : pathB s = true ↔ s.size ≤ 40 ∧ ∀ k (h : k < s.size), isUD s[k] = true := by
  unfold pathB
  rw [Bool.and_eq_true, decide_eq_true_iff, List.all_eq_true]
  constructor
  · rintro ⟨h1, h2⟩
    exact ⟨h1, fun k h => h2 _ (by
      have : s[k] = s.data.toList[k]'(by simpa using h) := rfl
      rw [this]; exact List.getElem_mem _)⟩
  · rintro ⟨h1, h2⟩
    refine ⟨h1, fun x hx => ?_⟩
    obtain ⟨i, hi, rfl⟩ := List.mem_iff_getElem.1 hx
    exact h2 i (by simpa using hi)

end Go.Proofs.YtmfcknlpbliehaaDoor
