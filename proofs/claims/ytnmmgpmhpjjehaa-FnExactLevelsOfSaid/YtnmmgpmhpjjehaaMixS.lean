/- The model's kiMixed, IsMixed, PathOfMixed, MixedOfPath. -/
import Derived.Test.YtnmmgpmhpjjehaaMixMath
import Derived.Test.YtnmmgpmhpjjehaaPathOk
import Derived.Test.YtnmmgpmhpjjehaaOwn
namespace Go.Proofs.Ytnmmgpmhpjjehaa
open Go.RowKit
set_option linter.unusedVariables false
set_option maxRecDepth 100000 in
set_option maxHeartbeats 800000 in
theorem kiMixed_any (s : ByteArray) (w : World) (hs : s.size ≤ maxLen) : Calls Try.prog 74 #[.string s] w fun e w' => e = .returned (.bool (mixB s)) ∧ w = w' := by
  unfold maxLen at hs
  by_cases h12 : 12 < s.size
  · rw [mix_not (by omega)]
    go_enter Try.func74, Try.ntmps74
    go_wp2
    go_ret
    exact ⟨rfl, rfl⟩
  · have e : mixB s = mixGo s.data.toList 0 := by unfold mixB; rw [decide_eq_true (by omega), Bool.true_and]
    rw [e]
    generalize hB : mixGo s.data.toList 0 = B
    have HB := Lib.hid hB
    clear e hB
    go_enter Try.func74, Try.ntmps74
    go_wp2
    go_loop [3, 4] (fun h i => ∃ (k : Nat) (x : Int), k ≤ s.size ∧ i = .int .i64 (k : Int) ∧ h = .int .i64 x ∧ 0 ≤ x ∧ x ≤ k ∧ Hid (mixGo (s.data.toList.drop k) x = B)) (fun _ i => s.size - (intOf i).toNat)
    case atStart => exact ⟨0, 0, Nat.zero_le _, rfl, rfl, by omega, by omega, HB⟩
    case round =>
      obtain ⟨k, x, hk, rfl, rfl, x0, xk, HF⟩ := hrel
      by_cases hlt : k < s.size
      · have HD := drop_at s k hlt
        have HF1 := HF.out
        rw [HD] at HF1
        clear HD HF
        generalize hll : s.data.toList.drop (k + 1) = l at *
        have HL := Lib.hid hll
        clear hll
        generalize hc : s[k] = c at *
        by_cases c1 : c = 85
        · have HG : Hid (mixGo l (x + 1) = B) := Lib.hid (by rw [← mix_u l x c1 x0]; exact HF1)
          have q1 : ((s[k].toNat : Int) == 85) = true := by rw [hc, c1]; rfl
          have z1 : ¬ x + 1 < 0 := by omega
          clear HF1 hc
          go_wp2
          go_round
          case rel => exact ⟨k + 1, x + 1, by omega, by go_num, rfl, by omega, by omega, by rw [HL.out]; exact HG⟩
          case measure => simp [intOf]; omega
        · have q1 : ((s[k].toNat : Int) == 85) = false := by rw [hc]; exact u8_int c1
          by_cases c2 : c = 68
          · have q2 : ((s[k].toNat : Int) == 68) = true := by rw [hc, c2]; rfl
            rw [mix_d l x c2] at HF1
            by_cases hx : 0 ≤ x - 1
            · rw [decide_eq_true hx, Bool.true_and] at HF1
              have HG := Lib.hid HF1
              have z1 : ¬ x - 1 < 0 := by omega
              clear HF1 hc
              go_wp2
              go_round
              case rel => exact ⟨k + 1, x - 1, by omega, by go_num, rfl, by omega, by omega, by rw [HL.out]; exact HG⟩
              case measure => simp [intOf]; omega
            · rw [decide_eq_false hx, Bool.false_and] at HF1
              have HG := Lib.hid HF1
              have z1 : x - 1 < 0 := by omega
              clear HF1 hc
              go_wp2
              go_ret
              exact ⟨by rw [← HG.out]; rfl, rfl⟩
          · have q2 : ((s[k].toNat : Int) == 68) = false := by rw [hc]; exact u8_int c2
            by_cases c3 : c = 70
            · have q3 : ((s[k].toNat : Int) == 70) = true := by rw [hc, c3]; rfl
              rw [mix_f l x c3 x0] at HF1
              have HG := Lib.hid HF1
              have z1 : ¬ x < 0 := by omega
              clear HF1 hc
              go_wp2
              go_round
              case rel => exact ⟨k + 1, x, by omega, by go_num, rfl, by omega, by omega, by rw [HL.out]; exact HG⟩
              case measure => simp [intOf]; omega
            · have q3 : ((s[k].toNat : Int) == 70) = false := by rw [hc]; exact u8_int c3
              rw [mix_n l x c1 c2 c3] at HF1
              have HG := Lib.hid HF1
              clear HF1 hc
              go_wp2
              go_ret
              exact ⟨by rw [← HG.out]; rfl, rfl⟩
      · have HG : Hid (decide (x = 0) = B) := Lib.hid (by
          have := HF.out
          rw [List.drop_of_length_le (by simp; omega)] at this
          exact this)
        clear HF
        go_wp2
        go_ret
        exact ⟨by rw [← HG.out]; rfl, rfl⟩
theorem specIsMixed_ret (s : ByteArray) (w : World) (hs : s.size ≤ maxLen) : Calls Try.prog 27 #[.string s] w fun e w' => e = .returned (.bool (mixB s)) ∧ w = w' := by
  go_enter Try.func27, Try.ntmps27
  go_wp2_with (go_at_call 74; refine (kiMixed_any s _ hs).mono ?_; rintro e w' ⟨rfl, rfl⟩)
  go_ret
  exact ⟨rfl, rfl⟩
set_option maxRecDepth 100000 in
set_option maxHeartbeats 800000 in
theorem specPathOfMixed_ret (s : ByteArray) (w : World) (hs : s.size ≤ maxLen) : Calls Try.prog 63 #[.string s] w fun e w' => e = .returned (.tuple #[.string (pmV s), .bool (mixB s)]) ∧ w = w' := by
  rcases Bool.eq_false_or_eq_true (mixB s) with hm | hm
  · have h12 := mixB_size hm
    have e : pmV s = pmTo s s.size := by unfold pmV; rw [if_pos hm]
    have HM := Lib.hid hm
    rw [hm, e]
    clear e
    go_enter Try.func63, Try.ntmps63
    go_wp2_with (go_at_call 74; refine (kiMixed_any s _ hs).mono ?_; rintro e w' ⟨rfl, rfl⟩; rw [HM.out])
    clear hm
    go_loop [4, 5] (fun t i => ∃ k : Nat, k ≤ s.size ∧ i = .int .i64 (k : Int) ∧ t = .string (pmTo s k)) (fun _ i => s.size - (intOf i).toNat)
    case atStart => exact ⟨0, Nat.zero_le _, rfl, rfl⟩
    case round =>
      obtain ⟨k, hk, rfl, rfl⟩ := hrel
      have hsz := pmTo_size s k
      by_cases hlt : k < s.size
      · have HS : Hid (pmTo s (k + 1) = pmTo s k ++ pmB s[k]) := Lib.hid (by rw [pmTo, at_getD s k hlt])
        generalize pmTo s k = T at *
        generalize hc : s[k] = c at *
        by_cases c1 : c = 85
        · have q1 : ((s[k].toNat : Int) == 85) = true := by rw [hc, c1]; rfl
          have HP : Hid (pmB c = ⟨#[85, 85]⟩) := Lib.hid (by unfold pmB; rw [if_pos c1])
          clear hc
          go_wp2
          go_round
          case rel => exact ⟨k + 1, by omega, by go_num, by rw [HS.out, HP.out]⟩
          case measure => simp [intOf]; omega
        · have q1 : ((s[k].toNat : Int) == 85) = false := by rw [hc]; exact u8_int c1
          by_cases c2 : c = 68
          · have q2 : ((s[k].toNat : Int) == 68) = true := by rw [hc, c2]; rfl
            have HP : Hid (pmB c = ⟨#[68, 68]⟩) := Lib.hid (by unfold pmB; rw [if_neg c1, if_pos c2])
            clear hc
            go_wp2
            go_round
            case rel => exact ⟨k + 1, by omega, by go_num, by rw [HS.out, HP.out]⟩
            case measure => simp [intOf]; omega
          · have q2 : ((s[k].toNat : Int) == 68) = false := by rw [hc]; exact u8_int c2
            have HP : Hid (pmB c = ⟨#[85, 68]⟩) := Lib.hid (by unfold pmB; rw [if_neg c1, if_neg c2])
            clear hc
            go_wp2
            go_round
            case rel => exact ⟨k + 1, by omega, by go_num, by rw [HS.out, HP.out]⟩
            case measure => simp [intOf]; omega
      · obtain rfl : k = s.size := by omega
        go_wp2
        go_ret2
        exact ⟨rfl, rfl⟩
  · have e : pmV s = ⟨#[]⟩ := by unfold pmV; rw [hm]; rfl
    rw [hm, e]
    have HM := Lib.hid hm
    go_enter Try.func63, Try.ntmps63
    go_wp2_with (go_at_call 74; refine (kiMixed_any s _ hs).mono ?_; rintro e w' ⟨rfl, rfl⟩; rw [HM.out])
    go_ret2
    exact ⟨rfl, rfl⟩
end Go.Proofs.Ytnmmgpmhpjjehaa
