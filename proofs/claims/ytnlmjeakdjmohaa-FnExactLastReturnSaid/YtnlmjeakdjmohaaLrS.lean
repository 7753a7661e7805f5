/- LastReturn: both sides. -/
import Derived.Test.YtnlmjeakdjmohaaLastI
import Derived.Test.YtnlmjeakdjmohaaReturns
namespace Go.Proofs.Ytnlmjeakdjmohaa
open Go.RowKit
set_option linter.unusedVariables false
def lastTo (L : List Int) : Nat → Int
  | 0 => 0
  | j + 1 => L.getD j 0
theorem lastTo_app (L : List Int) (x : Int) : lastTo (L ++ [x]) (L ++ [x]).length = x := by
  rw [List.length_append]
  show (L ++ [x]).getD L.length 0 = x
  simp
theorem last_ret (s : ByteArray) : ∀ k : Nat, laTo s 0 (k + 1) = lastTo (retsTo s (k + 1)) (retsTo s (k + 1)).length
  | 0 => by
    have h0 : hAt s 0 = 0 := rfl
    rw [laTo, if_pos h0, retsTo_no (rt_no1 (by omega))]
    rfl
  | k + 1 => by
    rw [laTo]
    by_cases h : hAt s (k + 1) = 0
    · rw [if_pos h, retsTo_yes (rt_yes (by omega) (by rw [h]; rfl)), lastTo_app]
    · rw [if_neg h, last_ret s k, retsTo_no (k := k + 1) (rt_no2 (beq_eq_false_iff_ne.2 h))]
theorem laTo_nn (s : ByteArray) : ∀ k : Nat, 0 ≤ laTo s 0 (k + 1)
  | 0 => by
    have h0 : hAt s 0 = 0 := rfl
    rw [laTo, if_pos h0]
    omega
  | k + 1 => by
    rw [laTo]
    split
    · omega
    · exact laTo_nn s k
theorem lrOk (s : ByteArray) : laOk s 0 = pathB s := by
  unfold laOk laZ
  rw [decide_eq_true (laTo_nn s s.size), show inB 0 (-40) 40 = true by decide, Bool.and_true, Bool.and_true]
theorem lrV {s : ByteArray} (hp : pathB s = true) : laV s 0 = lastTo (retsTo s (s.size + 1)) (retsTo s (s.size + 1)).length := by
  unfold laV
  rw [lrOk, if_pos hp]
  exact last_ret s s.size
theorem lrV_no {s : ByteArray} (hp : pathB s = false) : laV s 0 = 0 := by
  unfold laV
  rw [lrOk, hp]
  rfl
theorem lastReturnI_ret (s : ByteArray) (w : World) (hs : s.size ≤ maxLen) : Calls Try.prog 64 #[.string s] w (Ret w (.tuple #[.int .i64 (laV s 0), .bool (pathB s)])) := by
  rw [← lrOk]
  go_enter Try.func64, Try.ntmps64
  go_wp2_with (go_at_call 105; refine (lastAt_ret s 0 _ hs).mono ?_; rintro e w1 ⟨rfl, hb⟩)
  go_ret2
  exact ⟨rfl, hb⟩
end Go.Proofs.Ytnlmjeakdjmohaa
