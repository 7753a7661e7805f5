/- AreaIndex: the model. -/
import Derived.Test.YtnlmjeakdjmohaaAiI
namespace Go.Proofs.Ytnlmjeakdjmohaa
open Go.RowKit
set_option linter.unusedVariables false
theorem ai_yes {s : ByteArray} (hp : pathB s = true) (h1 : 0 ≤ minTo s s.size) (h2 : hAt s s.size = 0) : aiOk s = true := by
  unfold aiOk goodV closedV
  rw [hp, decide_eq_true h1, h2]
  rfl
theorem ai_no0 {s : ByteArray} (hp : pathB s = false) : aiOk s = false := by unfold aiOk goodV; rw [hp, Bool.false_and, Bool.false_and]
theorem ai_no1 {s : ByteArray} (h1 : minTo s s.size < 0) : aiOk s = false := by unfold aiOk goodV; rw [decide_eq_false (by omega), Bool.and_false, Bool.false_and]
theorem ai_no2 {s : ByteArray} (h2 : hAt s s.size ≠ 0) : aiOk s = false := by unfold aiOk closedV; rw [beq_eq_false_iff_ne.2 h2, Bool.and_false, Bool.and_false]
set_option maxHeartbeats 800000 in
theorem specAreaIndex_ret (s : ByteArray) (w : World) (hs : s.size ≤ maxLen) : Calls Try.prog 69 #[.string s] w (Ret w (.tuple #[.int .i64 (aiV s), .bool (aiOk s)])) := by
  rcases Bool.eq_false_or_eq_true (pathB s) with hp | hp
  case inr =>
    rw [ai_no0 hp, aiV_no (ai_no0 hp)]
    go_enter Try.func69, Try.ntmps69
    go_wp2_with (first | (go_at_call 98; refine (paGood_any s _ hs).mono ?_; rintro e w' ⟨rfl, rfl⟩; rw [hp]))
    go_ret2
    exact ⟨rfl, Below.refl _ _⟩
  have HP := Lib.hid hp
  have h40 := ((pathB_iff s).1 hp).1
  by_cases h1 : minTo s s.size < 0
  · rw [ai_no1 h1, aiV_no (ai_no1 h1)]
    have HL := Lib.hid (fun w => paLow_ret s w HP.out)
    generalize minTo s s.size = mn at *

    go_enter Try.func69, Try.ntmps69
    go_wp2_with (first | (go_at_call 98; refine (paGood_any s _ hs).mono ?_; rintro e w' ⟨rfl, rfl⟩) | (go_at_call 106; refine (HL.out _).mono ?_; rintro e w1 ⟨rfl, hb1⟩))
    go_ret2
    exact ⟨rfl, hb1⟩
  have HL := Lib.hid (fun w => paLow_ret s w HP.out)
  have HE := Lib.hid (fun w => paEnd_ret s w HP.out)
  by_cases h2 : hAt s s.size = 0
  · have e := ai_yes hp (by omega) h2
    have ev : aiV s = (areaTo s (s.size + 1) - (s.size : Int) / 2).tdiv 2 := by unfold aiV; rw [if_pos e, Int.tdiv_eq_ediv_of_nonneg (a := (s.size : Int)) (by omega)]
    have HV := Lib.hid ev
    rw [e]
    rw [h2] at HE
    have HA := Lib.hid (areaTo_bd s h40)
    generalize minTo s s.size = mn at *
    clear e ev h2
    go_enter Try.func69, Try.ntmps69
    go_wp2_with (first | (go_at_call 98; refine (paGood_any s _ hs).mono ?_; rintro e w' ⟨rfl, rfl⟩) | (go_at_call 106; refine (HL.out _).mono ?_; rintro e w1 ⟨rfl, hb1⟩) | (go_at_call 107; refine (HE.out _).mono ?_; rintro e w2 ⟨rfl, hb2⟩) | (go_at_call 99; refine (paHeights_any s _ HP.out).mono ?_; rintro e w3 ⟨v, rfl, hr, hb3⟩; obtain ⟨g, c, rfl, hgB, hgl⟩ := hr.form' (hts_length s) (by omega)))
    go_loop [4, 6, 23] (fun u a i => ∃ k : Nat, k ≤ s.size + 1 ∧ i = .int .i64 (k : Int) ∧ u = .int .i64 (areaTo s k)) (fun _ _ i => s.size + 1 - (intOf i).toNat)
    case atStart => exact ⟨0, Nat.zero_le _, rfl, rfl⟩
    case round =>
      obtain ⟨k, hk, rfl, rfl⟩ := hrel
      by_cases hlt : k < s.size + 1
      · have hc := hts_at hr k (by omega)
        have h1 := HA.out k (by omega)
        have h2 := hAt_bd s k (by omega)
        go_wp2
        go_round
        case rel => exact ⟨k + 1, by omega, by go_num, rfl⟩
        case measure => simp [intOf]; omega
      · obtain rfl : k = s.size + 1 := by omega
        have h1 := HA.out (s.size + 1) (by omega)
        have HB := Lib.hid ((hb1.trans (hb2.mono hb1.size)).trans (hb3.mono (Nat.le_trans hb1.size hb2.size)))
        clear hr
        generalize areaTo s (s.size + 1) = A at *
        go_wp2
        go_ret2
        exact ⟨ret_ib HV.out.symm rfl, HB.out⟩
  · rw [ai_no2 h2, aiV_no (ai_no2 h2)]
    have q : (hAt s s.size != 0) = true := by simpa using h2
    generalize hAt s s.size = en at *
    generalize minTo s s.size = mn at *
    go_enter Try.func69, Try.ntmps69
    go_wp2_with (first | (go_at_call 98; refine (paGood_any s _ hs).mono ?_; rintro e w' ⟨rfl, rfl⟩) | (go_at_call 106; refine (HL.out _).mono ?_; rintro e w1 ⟨rfl, hb1⟩) | (go_at_call 107; refine (HE.out _).mono ?_; rintro e w2 ⟨rfl, hb2⟩))
    go_ret2
    exact ⟨rfl, hb1.trans (hb2.mono hb1.size)⟩
end Go.Proofs.Ytnlmjeakdjmohaa
