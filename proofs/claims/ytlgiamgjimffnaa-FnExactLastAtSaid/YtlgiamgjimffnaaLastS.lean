/- The model's LastAt. -/
import Derived.Test.YtlgiamgjimffnaaTchS
namespace Go.Proofs.Ytlgiamgjimffnaa
open Go.RowKit
set_option linter.unusedVariables false
def laOk (s : ByteArray) (h : Int) : Bool := pathB s && inB h (-40) 40 && decide (0 ≤ laZ s h)
def laV (s : ByteArray) (h : Int) : Int := if laOk s h = true then laZ s h else 0
set_option maxHeartbeats 400000 in
theorem specLastAt_ret (s : ByteArray) (h : Int) (w : World) (hs : s.size ≤ maxLen) : Calls Try.prog 44 #[.string s, .int .i64 h] w (Ret w (.tuple #[.int .i64 (laV s h), .bool (laOk s h)])) := by
  rcases Bool.eq_false_or_eq_true (pathB s) with hp | hp
  case inr =>
    have e1 : laOk s h = false := by simp [laOk, hp]
    have e2 : laV s h = 0 := by rw [laV, e1]; rfl
    rw [e1, e2]
    clear e1 e2
    go_enter Try.func44, Try.ntmps44
    go_wp2_with (first | (go_at_call 85; refine (paGood_any s _ hs).mono ?_; rintro e w' ⟨rfl, rfl⟩) | (go_at_call 86; refine (miHeight_any h _).mono ?_; rintro e w' ⟨rfl, rfl⟩))
    go_ret2
    exact ⟨rfl, Below.refl _ _⟩
  have HP := Lib.hid hp
  have h40 := ((pathB_iff s).1 hp).1
  rcases Bool.eq_false_or_eq_true (inB h (-40) 40) with hi | hi
  case inr =>
    have e1 : laOk s h = false := by simp [laOk, hi]
    have e2 : laV s h = 0 := by rw [laV, e1]; rfl
    rw [e1, e2]
    clear e1 e2
    go_enter Try.func44, Try.ntmps44
    go_wp2_with (first | (go_at_call 85; refine (paGood_any s _ hs).mono ?_; rintro e w' ⟨rfl, rfl⟩) | (go_at_call 86; refine (miHeight_any h _).mono ?_; rintro e w' ⟨rfl, rfl⟩))
    go_ret2
    exact ⟨rfl, Below.refl _ _⟩
  have HO : Hid (laOk s h = decide (0 ≤ laZ s h)) := Lib.hid (by simp [laOk, hp, hi])
  have HV : Hid (laV s h = if laOk s h = true then laZ s h else 0) := Lib.hid rfl
  go_enter Try.func44, Try.ntmps44
  go_wp2_with (first | (go_at_call 85; refine (paGood_any s _ hs).mono ?_; rintro e w' ⟨rfl, rfl⟩) | (go_at_call 86; refine (miHeight_any h _).mono ?_; rintro e w' ⟨rfl, rfl⟩) | (go_at_call 90; refine (paHeights_any s _ HP.out).mono ?_; rintro e w1 ⟨v, rfl, hr, hb⟩; obtain ⟨g, c, rfl, hgB, hgl⟩ := hr.form' (hts_length s) (by omega)))
  have HB := Lib.hid hb
  clear hb hp hi
  go_loop [6, 20] (fun u i => ∃ k : Nat, k ≤ s.size + 1 ∧ i = .int .i64 (k : Int) ∧ u = .int .i64 (laTo s h k)) (fun _ i => s.size + 1 - (intOf i).toNat)
  case atStart => exact ⟨0, Nat.zero_le _, rfl, rfl⟩
  case round =>
    obtain ⟨k, hk, rfl, rfl⟩ := hrel
    by_cases hlt : k < s.size + 1
    · have hc := hts_at hr k (by omega)
      go_wp2
      · go_round
        case rel => exact ⟨k + 1, by omega, by go_num, by rw [laTo_yes (by assumption)]⟩
        case measure => simp [intOf]; omega
      · go_round
        case rel => exact ⟨k + 1, by omega, by go_num, by rw [laTo_no (by assumption)]⟩
        case measure => simp [intOf]; omega
    · have hk2 : k = s.size + 1 := by omega
      have hbd := laTo_bd s h k
      have HL : Hid (laTo s h k = laZ s h) := Lib.hid (by rw [hk2]; rfl)
      clear hk2
      by_cases h0 : laTo s h k < 0
      · go_wp2_with fail
        go_ret2
        have e1 : laOk s h = false := by rw [HO.out, ← HL.out]; exact decide_eq_false (by omega)
        rw [HV.out, e1]
        exact ⟨rfl, HB.out⟩
      · go_wp2_with fail
        go_ret2
        have e1 : laOk s h = true := by rw [HO.out, ← HL.out]; exact decide_eq_true (by omega)
        rw [HV.out, e1, if_pos rfl, ← HL.out]
        exact ⟨rfl, HB.out⟩
end Go.Proofs.Ytlgiamgjimffnaa
