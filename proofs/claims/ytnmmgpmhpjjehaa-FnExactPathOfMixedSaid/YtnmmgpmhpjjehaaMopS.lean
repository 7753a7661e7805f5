/- The model's MixedOfPath. -/
import Derived.Test.YtnmmgpmhpjjehaaMixS
namespace Go.Proofs.Ytnmmgpmhpjjehaa
open Go.RowKit
set_option linter.unusedVariables false
theorem mpOk_no {s : ByteArray} {n j : Nat} (h : s.data.toList.getD (2 * j) 0 = 68 ∧ s.data.toList.getD (2 * j + 1) 0 = 85) : mpOk s (n + 1) j = false := by rw [mpOk, h.1, h.2]; rfl
theorem mpOk_go {s : ByteArray} {n j : Nat} (h : ¬ (s.data.toList.getD (2 * j) 0 = 68 ∧ s.data.toList.getD (2 * j + 1) 0 = 85)) : mpOk s (n + 1) j = mpOk s n (j + 1) := by
  rw [mpOk]
  have : (s.data.toList.getD (2 * j) 0 == 68 && s.data.toList.getD (2 * j + 1) 0 == 85) = false := by
    rw [Bool.eq_false_iff]
    intro e
    rw [Bool.and_eq_true, beq_iff_eq, beq_iff_eq] at e
    exact h e
  rw [this]
  rfl
theorem ud_two {c : UInt8} (h : isUD c = true) : c = 85 ∨ c = 68 := by
  unfold isUD at h
  simpa using h
set_option maxRecDepth 100000 in
set_option maxHeartbeats 1600000 in
theorem specMixedOfPath_ret (s : ByteArray) (w : World) (hs : s.size ≤ maxLen) : Calls Try.prog 65 #[.string s] w fun e w' => e = .returned (.tuple #[.string (moV s), .bool (moOk s)]) ∧ w = w' := by
  rcases Bool.eq_false_or_eq_true (pathB s) with hp | hp
  case inr =>
    have e1 : moOk s = false := by unfold moOk; rw [hp]; rfl
    have e2 : moV s = ⟨#[]⟩ := by unfold moV; rw [e1]; rfl
    rw [e1, e2]
    clear e1 e2
    go_enter Try.func65, Try.ntmps65
    go_wp2_with (go_at_call 101; refine (paGood_any s _ hs).mono ?_; rintro e w' ⟨rfl, rfl⟩)
    go_ret2
    exact ⟨rfl, rfl⟩
  have h40 := ((pathB_iff s).1 hp).1
  have HP := Lib.hid hp
  by_cases hev : s.size % 2 = 0
  case neg =>
    have e1 : moOk s = false := by unfold moOk; rw [decide_eq_false hev, Bool.and_false]; rfl
    have e2 : moV s = ⟨#[]⟩ := by unfold moV; rw [e1]; rfl
    have t0 : ((s.size : Int) % 2 == 1) = true := by simp; omega
    rw [e1, e2]
    clear e1 e2 hev
    go_enter Try.func65, Try.ntmps65
    go_wp2_with (go_at_call 101; refine (paGood_any s _ hs).mono ?_; rintro e w' ⟨rfl, rfl⟩)
    go_ret2
    exact ⟨rfl, rfl⟩
  have t0 : ((s.size : Int) % 2 == 1) = false := by simp; omega
  obtain ⟨m, hm⟩ : ∃ m, s.size = 2 * m := ⟨s.size / 2, by omega⟩
  have em : s.size / 2 = m := by omega
  have eo : moOk s = (mpOk s m 0 && mixB (mpTo s m)) := by unfold moOk; rw [hp, decide_eq_true hev, em]; rfl
  have HV : Hid (moV s = if moOk s = true then mpTo s m else ⟨#[]⟩) := Lib.hid (by unfold moV; rw [em])
  have HO := Lib.hid eo
  have HM := Lib.hid hm
  clear eo em hev hp
  go_enter Try.func65, Try.ntmps65
  go_wp2_with (go_at_call 101; refine (paGood_any s _ hs).mono ?_; rintro e w' ⟨rfl, rfl⟩)
  go_loop [4, 5] (fun t i => ∃ j : Nat, j ≤ m ∧ i = .int .i64 ((2 * j : Nat) : Int) ∧ t = .string (mpTo s j) ∧ Hid (mpOk s (m - j) j = mpOk s m 0)) (fun _ i => s.size - (intOf i).toNat)
  case atStart => exact ⟨0, Nat.zero_le _, rfl, rfl, Lib.hid rfl⟩
  case round =>
    obtain ⟨j, hj, rfl, rfl, HF⟩ := hrel
    have hsz := mpTo_size s j
    by_cases hlt : j < m
    · have hk1 : 2 * j + 1 < s.size := by omega
      have HE := ext2_list s (2 * j) (by omega)
      have HS : Hid (mpTo s (j + 1) = mpTo s j ++ mpB s[2 * j] s[2 * j + 1]) := Lib.hid (by rw [mpTo, at_getD s _ (by omega), at_getD s _ hk1])
      have hu0 := ud_two (((pathB_iff s).1 HP.out).2 (2 * j) (by omega))
      have hu1 := ud_two (((pathB_iff s).1 HP.out).2 (2 * j + 1) hk1)
      have HF1 := HF.out
      rw [show m - j = (m - (j + 1)) + 1 by omega] at HF1
      have HN : Hid (s[2 * j] = 68 → s[2 * j + 1] = 85 → mpOk s m 0 = false) := Lib.hid fun e1 e2 => by
        rw [← HF1]
        exact mpOk_no ⟨by rw [at_getD s _ (by omega)]; exact e1, by rw [at_getD s _ hk1]; exact e2⟩
      have HG : Hid (¬ (s[2 * j] = 68 ∧ s[2 * j + 1] = 85) → mpOk s (m - (j + 1)) (j + 1) = mpOk s m 0) := Lib.hid fun e => by
        rw [← HF1]
        exact (mpOk_go (by rw [at_getD s _ (by omega), at_getD s _ hk1]; exact e)).symm
      clear HF1 HF
      have i1 : (2 * (j : Int)) < (s.size : Int) := by omega
      have i2 : (2 * (j : Int)) + 2 ≤ (s.size : Int) := by omega
      generalize s[2 * j] = a at *
      generalize s[2 * j + 1] = b at *
      generalize mpTo s j = T at *
      have hab : (s.extract (2 * j) (2 * j + 2)).toList = [a, b] := HE
      have hz40 : s.size ≤ 40 := h40
      rcases hu0 with rfl | rfl <;> rcases hu1 with rfl | rfl
      · have HB : Hid (mpB 85 85 = ⟨#[85]⟩) := Lib.hid rfl
        have HGG := Lib.hid (HG.out (by decide))
        clear HN HG
        go_wp2
        go_round
        case rel => exact ⟨j + 1, by omega, by go_num, by rw [HS.out, HB.out], HGG⟩
        case measure => simp [intOf]; omega
      · have HB : Hid (mpB 85 68 = ⟨#[70]⟩) := Lib.hid rfl
        have HGG := Lib.hid (HG.out (by decide))
        clear HN HG
        go_wp2
        go_round
        case rel => exact ⟨j + 1, by omega, by go_num, by rw [HS.out, HB.out], HGG⟩
        case measure => simp [intOf]; omega
      · have HGG := Lib.hid (HN.out rfl rfl)
        clear HN HG
        have e1 : Hid (moOk s = false) := Lib.hid (by rw [HO.out, HGG.out]; rfl)
        have e2 : Hid (moV s = ⟨#[]⟩) := Lib.hid (by rw [HV.out, e1.out]; rfl)
        go_wp2
        go_ret2
        exact ⟨by rw [e1.out, e2.out]; rfl, rfl⟩
      · have HB : Hid (mpB 68 68 = ⟨#[68]⟩) := Lib.hid rfl
        have HGG := Lib.hid (HG.out (by decide))
        clear HN HG
        go_wp2
        go_round
        case rel => exact ⟨j + 1, by omega, by go_num, by rw [HS.out, HB.out], HGG⟩
        case measure => simp [intOf]; omega
    · obtain rfl : j = m := by omega
      have HO2 : Hid (moOk s = mixB (mpTo s j)) := Lib.hid (by
        have := HF.out
        rw [Nat.sub_self, mpOk] at this
        rw [HO.out, ← this, Bool.true_and])
      clear HF
      generalize mpTo s j = T at *
      have HK : Hid (∀ w, Calls Try.prog 74 #[.string T] w fun e w' => e = .returned (.bool (mixB T)) ∧ w = w') := Lib.hid fun w => kiMixed_any T w (by unfold maxLen; omega)
      rcases Bool.eq_false_or_eq_true (mixB T) with hb | hb
      · rw [hb] at HK
        go_wp2_with (go_at_call 74; refine (HK.out _).mono ?_; rintro e w' ⟨rfl, rfl⟩)
        go_ret2
        exact ⟨by rw [HV.out, HO2.out, hb]; rfl, rfl⟩
      · rw [hb] at HK
        go_wp2_with (go_at_call 74; refine (HK.out _).mono ?_; rintro e w' ⟨rfl, rfl⟩)
        go_ret2
        exact ⟨by rw [HV.out, HO2.out, hb]; rfl, rfl⟩
end Go.Proofs.Ytnmmgpmhpjjehaa
