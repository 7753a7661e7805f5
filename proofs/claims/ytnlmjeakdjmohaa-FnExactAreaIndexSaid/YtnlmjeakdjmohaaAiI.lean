/- AreaIndex: the program. -/
import Derived.Test.YtnlmjeakdjmohaaGood
import Derived.Test.YtnlmjeakdjmohaaClosed
import Derived.Test.YtnlmjeakdjmohaaArea
namespace Go.Proofs.Ytnlmjeakdjmohaa
open Go.RowKit
set_option linter.unusedVariables false
def aiOk (s : ByteArray) : Bool := goodV s && closedV s
def aiV (s : ByteArray) : Int := if aiOk s = true then (areaTo s (s.size + 1) - (s.size : Int).tdiv 2).tdiv 2 else 0
theorem aiV_no {s : ByteArray} (h : aiOk s = false) : aiV s = 0 := by unfold aiV; rw [h]; rfl
theorem ai_path {s : ByteArray} (h : aiOk s = true) : pathB s = true := by
  unfold aiOk goodV at h
  rw [Bool.and_eq_true, Bool.and_eq_true] at h
  exact h.1.1
set_option maxHeartbeats 800000 in
theorem areaIndexI_ret (s : ByteArray) (w : World) (hs : s.size ≤ maxLen) : Calls Try.prog 70 #[.string s] w (Ret w (.tuple #[.int .i64 (aiV s), .bool (aiOk s)])) := by
  have HG := Lib.hid (fun w => isGood_ret s w hs)
  have HC := Lib.hid (fun w => isClosed_ret s w hs)
  have HA := Lib.hid (fun w => area_ret s w hs)
  rcases Bool.eq_false_or_eq_true (goodV s) with hg | hg
  · rcases Bool.eq_false_or_eq_true (closedV s) with hc | hc
    · have e : aiOk s = true := by unfold aiOk; rw [hg, hc]; rfl
      have hp := ai_path e
      have h40 := ((pathB_iff s).1 hp).1
      have ha := areaTo_bd s h40 (s.size + 1) (Nat.le_refl _)
      have ev : areaV s = areaTo s (s.size + 1) := by unfold areaV; rw [if_pos hp]
      have e2 : aiV s = (areaTo s (s.size + 1) - (s.size : Int).tdiv 2).tdiv 2 := by unfold aiV; rw [if_pos e]
      rw [e, e2]
      rw [ev] at HA
      rw [hg] at HG
      rw [hc] at HC
      clear e e2 ev hg hc hp
      generalize areaTo s (s.size + 1) = A at *
      go_enter Try.func70, Try.ntmps70
      go_wp2_with (first | (go_at_call 108; refine (HG.out _).mono ?_; rintro e w1 ⟨rfl, hb1⟩) | (go_at_call 109; refine (HC.out _).mono ?_; rintro e w2 ⟨rfl, hb2⟩) | (go_at_call 110; refine (HA.out _).mono ?_; rintro e w3 ⟨rfl, hb3⟩))
      go_ret2
      exact ⟨rfl, (hb1.trans (hb2.mono hb1.size)).trans (hb3.mono (Nat.le_trans hb1.size hb2.size))⟩
    · have e : aiOk s = false := by unfold aiOk; rw [hc, Bool.and_false]
      rw [e, aiV_no e]
      rw [hg] at HG
      rw [hc] at HC
      clear e hg hc
      go_enter Try.func70, Try.ntmps70
      go_wp2_with (first | (go_at_call 108; refine (HG.out _).mono ?_; rintro e w1 ⟨rfl, hb1⟩) | (go_at_call 109; refine (HC.out _).mono ?_; rintro e w2 ⟨rfl, hb2⟩))
      go_ret2
      exact ⟨rfl, hb1.trans (hb2.mono hb1.size)⟩
  · have e : aiOk s = false := by unfold aiOk; rw [hg, Bool.false_and]
    rw [e, aiV_no e]
    rw [hg] at HG
    clear e hg
    go_enter Try.func70, Try.ntmps70
    go_wp2_with (first | (go_at_call 108; refine (HG.out _).mono ?_; rintro e w1 ⟨rfl, hb1⟩) | (go_at_call 109; refine (HC.out _).mono ?_; rintro e w2 ⟨rfl, hb2⟩))
    go_ret2
    exact ⟨rfl, hb1.trans (hb2.mono hb1.size)⟩
end Go.Proofs.Ytnlmjeakdjmohaa
