/- isWithin, riseOf, IsMixed of the program. -/
import Derived.Test.YtnmmgpmhpjjehaaMixMath
import Derived.Test.YtnmmgpmhpjjehaaHeightsR
import Derived.Test.YtnmmgpmhpjjehaaInList
import Derived.Test.YtnmmgpmhpjjehaaDeg
import Derived.Lib.Bytealg
namespace Go.Proofs.Ytnmmgpmhpjjehaa
open Go.RowKit
set_option linter.unusedVariables false
set_option maxHeartbeats 800000 in
theorem within_any (v : Value) (xs : List Int) (lo hi : Int) (w : World) (h : RInts w v xs) (hl : xs.length ≤ 1048576) :
    Calls Try.prog 68 #[.int .i64 lo, .int .i64 hi, v] w fun e w' => e = .returned (.bool (allB xs lo hi)) ∧ w = w' := by
  obtain ⟨A0, cap, rfl⟩ := h.shape
  have H := Lib.hid h
  clear h
  go_enter Try.func68, Try.ntmps68
  go_wp2
  go_loop [11] (fun i => ∃ k : Nat, k ≤ xs.length ∧ i = .int .i64 (k : Int) ∧ Hid (allB (xs.take k) lo hi = true)) (fun i => xs.length - (intOf i).toNat)
  case atStart => exact ⟨0, by omega, rfl, Lib.hid (by simp [allB])⟩
  case round =>
    obtain ⟨k, hk, rfl, HA⟩ := hrel
    by_cases hlt : k < xs.length
    · obtain ⟨g, o, cc, hv, hg, hcells⟩ := H.out.cells (by omega)
      have hA : A0 = some ⟨g, o, none⟩ := by injection hv
      subst hA
      clear hv
      have e1 := hcells k hlt
      clear hcells
      have HB := Lib.hid (allB_take HA.out hlt)
      have HN := Lib.hid (fun hx => allB_no (xs := xs) (lo := lo) (hi := hi) hlt hx)
      generalize xs.getD k 0 = x at *
      by_cases h1 : x < lo
      · have HF := Lib.hid (HN.out (by unfold inBd; rw [decide_eq_false (show ¬ lo ≤ x by omega), Bool.false_and]))
        clear HN HB HA
        go_wp2
        go_ret
        exact ⟨ret_bool HF.out.symm, rfl⟩
      · by_cases h2 : hi < x
        · have HF := Lib.hid (HN.out (by unfold inBd; rw [decide_eq_false (show ¬ x ≤ hi by omega), Bool.and_false]))
          clear HN HB HA
          go_wp2
          go_ret
          exact ⟨ret_bool HF.out.symm, rfl⟩
        · have HF : Hid (allB (xs.take (k + 1)) lo hi = true) := Lib.hid (by rw [HB.out]; unfold inBd; rw [decide_eq_true (show lo ≤ x by omega), decide_eq_true (show x ≤ hi by omega)]; rfl)
          clear HN HB HA
          go_wp2
          go_round
          case rel => exact ⟨k + 1, by omega, by go_num, HF⟩
          case measure => first | (simp [intOf]; done) | (simp [intOf]; omega)
    · have HK : Hid (allB xs lo hi = true) := Lib.hid (by
        have := HA.out
        rwa [List.take_of_length_le (by omega)] at this)
      clear HA
      go_wp2
      go_ret
      exact ⟨ret_bool HK.out.symm, rfl⟩
def riseZ (x : Int) : Int := if x = 70 then 0 else stepZ x
theorem rise_any (x : Int) (w : World) : Calls Try.prog 76 #[.int .u8 x] w fun e w' => e = .returned (.int .i64 (riseZ x)) ∧ w = w' := by
  by_cases h : x = 70
  · subst h
    go_enter Try.func76, Try.ntmps76
    go_wp2
    go_ret
    exact ⟨rfl, rfl⟩
  · have e : riseZ x = stepZ x := by unfold riseZ; rw [if_neg h]
    rw [e]
    have q : (x == 70) = false := beq_eq_false_iff_ne.2 h
    clear e
    go_enter Try.func76, Try.ntmps76
    go_wp2_with (go_at_call 107; refine (climb_any _ _).mono ?_; rintro e w' ⟨rfl, rfl⟩)
    go_ret
    exact ⟨rfl, rfl⟩
/-- the place of a letter among those of mixed paths -/
def kiPos (c : UInt8) : Int := if c = 68 then 0 else if c = 70 then 1 else if c = 85 then 2 else -1
theorem pos_byte (c : UInt8) : Lib.indexByte [68, 70, 85] c = kiPos c := by
  unfold kiPos
  by_cases h1 : c = 68
  · subst h1; rfl
  · by_cases h2 : c = 70
    · subst h2; rfl
    · by_cases h3 : c = 85
      · subst h3; rfl
      · rw [if_neg h1, if_neg h2, if_neg h3]
        have e : ∀ d : UInt8, ¬ c = d → (d == c) = false := fun d hd => beq_eq_false_iff_ne.2 fun x => hd x.symm
        simp [Lib.indexByte, e 68 h1, e 70 h2, e 85 h3]
set_option maxRecDepth 100000 in
set_option maxHeartbeats 400000 in
theorem sliteIndex_any (c : UInt8) (w : World) :
    Calls Try.prog 106 #[.string ⟨#[68, 70, 85]⟩, .int .u8 (c.toNat : Int)] w fun e w' => e = .returned (.int .i64 (kiPos c)) ∧ w = w' := by
  have hc : ((c.toNat : Int).toNat).toUInt8 = c := by simp
  go_enter Try.func106, Try.ntmps106
  go_wp2
  rw [run_callFunc_extern Try.func116 (by kernel_rfl) (by kernel_rfl) (by kernel_rfl) (e := Extern.BytealgIndexByte.indexByte) (by kernel_rfl), Lib.run_indexByteString, hc]
  simp only [Result.andThen]
  rw [Oper.upon_value]
  go_wp2
  go_ret
  exact ⟨by rw [← pos_byte]; rfl, rfl⟩
set_option maxRecDepth 100000 in
theorem indexByte_any (c : UInt8) (w : World) :
    Calls Try.prog 75 #[.string ⟨#[68, 70, 85]⟩, .int .u8 (c.toNat : Int)] w fun e w' => e = .returned (.int .i64 (kiPos c)) ∧ w = w' := by
  go_enter Try.func75, Try.ntmps75
  go_wp2_with (go_at_call 106; refine (sliteIndex_any c _).mono ?_; rintro e w' ⟨rfl, rfl⟩)
  go_ret
  exact ⟨rfl, rfl⟩
theorem rise_step (c : UInt8) (h : isK c = true) : riseZ (c.toNat : Int) = kStep c := by
  unfold isK at h
  simp only [Bool.or_eq_true, beq_iff_eq] at h
  rcases h with (rfl | rfl) | rfl <;> rfl
theorem pos_neg (c : UInt8) : kiPos c < 0 ↔ isK c = false := by
  unfold kiPos isK
  by_cases h1 : c = 68
  · subst h1; decide
  · by_cases h2 : c = 70
    · subst h2; decide
    · by_cases h3 : c = 85
      · subst h3; decide
      · simp [h1, h2, h3]
set_option maxRecDepth 100000 in
set_option maxHeartbeats 800000 in
theorem isMixed_ret (s : ByteArray) (w : World) (hs : s.size ≤ maxLen) : Calls Try.prog 28 #[.string s] w fun e w' => e = .returned (.bool (mixB s)) ∧ w = w' := by
  unfold maxLen at hs
  by_cases h12 : 12 < s.size
  · rw [mix_not (by omega)]
    go_enter Try.func28, Try.ntmps28
    go_wp2
    go_ret
    exact ⟨rfl, rfl⟩
  · have e : mixB s = mixGo s.data.toList 0 := by unfold mixB; rw [decide_eq_true (by omega), Bool.true_and]
    rw [e]
    generalize hB : mixGo s.data.toList 0 = B
    have HB := Lib.hid hB
    clear e hB
    go_enter Try.func28, Try.ntmps28
    go_wp2
    go_loop [3, 10] (fun h i => ∃ (k : Nat) (x : Int), k ≤ s.size ∧ i = .int .i64 (k : Int) ∧ h = .int .i64 x ∧ 0 ≤ x ∧ x ≤ k ∧ Hid (mixGo (s.data.toList.drop k) x = B)) (fun _ i => s.size - (intOf i).toNat)
    case atStart => exact ⟨0, 0, Nat.zero_le _, rfl, rfl, by omega, by omega, HB⟩
    case round =>
      obtain ⟨k, x, hk, rfl, rfl, x0, xk, HF⟩ := hrel
      by_cases hlt : k < s.size
      · have HD := drop_at s k hlt
        have HF1 := HF.out
        rw [HD, mixGo] at HF1
        clear HD HF
        generalize hll : s.data.toList.drop (k + 1) = l at *
        have HL := Lib.hid hll
        clear hll
        have HIX := Lib.hid (fun w => indexByte_any s[k] w)
        have HRI := Lib.hid (fun w => rise_any (s[k].toNat : Int) w)
        rcases Bool.eq_false_or_eq_true (isK s[k]) with hk1 | hk1
        · have hp : ¬ kiPos s[k] < 0 := fun h => by rw [(pos_neg _).1 h] at hk1; cases hk1
          rw [rise_step _ hk1] at HRI
          rw [hk1, Bool.true_and] at HF1
          have hbd := kStep_bd s[k]
          clear hk1
          generalize kStep s[k] = y at *
          generalize kiPos s[k] = q at *
          by_cases hx : 0 ≤ x + y
          · rw [decide_eq_true hx, Bool.true_and] at HF1
            have HG := Lib.hid HF1
            have z1 : ¬ x + y < 0 := by omega
            clear HF1
            go_wp2_with (first | (go_at_call 75; refine (HIX.out _).mono ?_; rintro e w' ⟨rfl, rfl⟩) | (go_at_call 76; refine (HRI.out _).mono ?_; rintro e w' ⟨rfl, rfl⟩))
            go_round
            case rel => exact ⟨k + 1, x + y, by omega, by go_num, rfl, by omega, by omega, by rw [HL.out]; exact HG⟩
            case measure => simp [intOf]; omega
          · rw [decide_eq_false hx, Bool.false_and] at HF1
            have HG := Lib.hid HF1
            have z1 : x + y < 0 := by omega
            clear HF1
            go_wp2_with (first | (go_at_call 75; refine (HIX.out _).mono ?_; rintro e w' ⟨rfl, rfl⟩) | (go_at_call 76; refine (HRI.out _).mono ?_; rintro e w' ⟨rfl, rfl⟩))
            go_ret
            exact ⟨by rw [← HG.out]; rfl, rfl⟩
        · have hp : kiPos s[k] < 0 := (pos_neg _).2 hk1
          rw [hk1, Bool.false_and, Bool.false_and] at HF1
          have HG := Lib.hid HF1
          clear hk1 HF1
          generalize kiPos s[k] = q at *
          go_wp2_with (go_at_call 75; refine (HIX.out _).mono ?_; rintro e w' ⟨rfl, rfl⟩)
          go_ret
          exact ⟨by rw [← HG.out]; rfl, rfl⟩
      · have HG : Hid (decide (x = 0) = B) := Lib.hid (by
          have := HF.out
          rw [List.drop_of_length_le (by simp; omega)] at this
          exact this)
        clear HF
        go_wp2
        go_ret
        exact ⟨by rw [← HG.out]; rfl, rfl⟩
end Go.Proofs.Ytnmmgpmhpjjehaa
