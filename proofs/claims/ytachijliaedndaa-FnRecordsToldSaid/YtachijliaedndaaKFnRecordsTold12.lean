/- Pack 12 of what FnRecordsTold needs: Deg, KindI. -/
import Derived.Test.YtachijliaedndaaKFnRecordsTold11
import Derived.Lib.Bytealg
/- l1All, cyGood, IsDegrees, cyExcess, cyForest. -/
namespace Go.Proofs.Ytachijliaedndaa
open Go.RowKit
set_option linter.unusedVariables false
def excV (xs : List Int) : Int := if degB xs then exc xs else 0
def forV (xs : List Int) : Bool := degB xs && forB xs
end Go.Proofs.Ytachijliaedndaa

/- isWithin, riseOf, IsMixed of the program. -/
namespace Go.Proofs.Ytachijliaedndaa
open Go.RowKit
set_option linter.unusedVariables false
set_option maxHeartbeats 800000 in
theorem within_any (v : Value) (xs : List Int) (lo hi : Int) (w : World) (h : RInts w v xs) (hl : xs.length ≤ 1048576) :
    Calls Try.prog 174 #[.int .i64 lo, .int .i64 hi, v] w fun e w' => e = .returned (.bool (allB xs lo hi)) ∧ w = w' := by
  obtain ⟨A0, cap, rfl⟩ := h.shape
  have H := Lib.hid h
  clear h
  go_enter Try.func174, Try.ntmps174
  go_wp2
  go_loop [11] (fun i => ∃ k : Nat, k ≤ xs.length ∧ i = .int .i64 (k : Int) ∧ Hid (allB (xs.take k) lo hi = true)) (fun i => xs.length - (intOf i).toNat)
  case atStart => exact ⟨0, by omega, rfl, Lib.hid (by simp [allB])⟩
  case round =>
    obtain ⟨k, hk, rfl, HA⟩ := hrel
    by_cases hlt : k < xs.length
    · obtain ⟨g, o, cc, hv, hg, hcells⟩ := H.out.cells (by omega)
      have hA : A0 = some ⟨g, o, none⟩ := by injection hv
      subst hA
      clear hv
      have e1 := hcells k hlt
      clear hcells
      have HB := Lib.hid (allB_take HA.out hlt)
      have HN := Lib.hid (fun hx => allB_no (xs := xs) (lo := lo) (hi := hi) hlt hx)
      generalize xs.getD k 0 = x at *
      by_cases h1 : x < lo
      · have HF := Lib.hid (HN.out (by unfold inBd; rw [decide_eq_false (show ¬ lo ≤ x by omega), Bool.false_and]))
        clear HN HB HA
        go_wp2
        go_ret
        exact ⟨ret_bool HF.out.symm, rfl⟩
      · by_cases h2 : hi < x
        · have HF := Lib.hid (HN.out (by unfold inBd; rw [decide_eq_false (show ¬ x ≤ hi by omega), Bool.and_false]))
          clear HN HB HA
          go_wp2
          go_ret
          exact ⟨ret_bool HF.out.symm, rfl⟩
        · have HF : Hid (allB (xs.take (k + 1)) lo hi = true) := Lib.hid (by rw [HB.out]; unfold inBd; rw [decide_eq_true (show lo ≤ x by omega), decide_eq_true (show x ≤ hi by omega)]; rfl)
          clear HN HB HA
          go_wp2
          go_round
          case rel => exact ⟨k + 1, by omega, by go_num, HF⟩
          case measure => first | (simp [intOf]; done) | (simp [intOf]; omega)
    · have HK : Hid (allB xs lo hi = true) := Lib.hid (by
        have := HA.out
        rwa [List.take_of_length_le (by omega)] at this)
      clear HA
      go_wp2
      go_ret
      exact ⟨ret_bool HK.out.symm, rfl⟩
def riseZ (x : Int) : Int := if x = 70 then 0 else stepZ x
/-- the place of a letter among those of mixed paths -/
def kiPos (c : UInt8) : Int := if c = 68 then 0 else if c = 70 then 1 else if c = 85 then 2 else -1
theorem pos_byte (c : UInt8) : Lib.indexByte [68, 70, 85] c = kiPos c := by
  unfold kiPos
  by_cases h1 : c = 68
  · subst h1; rfl
  · by_cases h2 : c = 70
    · subst h2; rfl
    · by_cases h3 : c = 85
      · subst h3; rfl
      · rw [if_neg h1, if_neg h2, if_neg h3]
        have e : ∀ d : UInt8, ¬ c = d → (d == c) = false := fun d hd => beq_eq_false_iff_ne.2 fun x => hd x.symm
        simp [Lib.indexByte, e 68 h1, e 70 h2, e 85 h3]
set_option maxRecDepth 100000 in
set_option maxHeartbeats 400000 in
theorem sliteIndex_any (c : UInt8) (w : World) :
    Calls Try.prog 264 #[.string ⟨#[68, 70, 85]⟩, .int .u8 (c.toNat : Int)] w fun e w' => e = .returned (.int .i64 (kiPos c)) ∧ w = w' := by
  have hc : ((c.toNat : Int).toNat).toUInt8 = c := by simp
  go_enter Try.func264, Try.ntmps264
  go_wp2
  rw [run_callFunc_extern Try.func268 (by kernel_rfl) (by kernel_rfl) (by kernel_rfl) (e := Extern.BytealgIndexByte.indexByte) (by kernel_rfl), Lib.run_indexByteString, hc]
  simp only [Result.andThen]
  rw [Oper.upon_value]
  go_wp2
  go_ret
  exact ⟨by rw [← pos_byte]; rfl, rfl⟩
theorem rise_step (c : UInt8) (h : isK c = true) : riseZ (c.toNat : Int) = kStep c := by
  unfold isK at h
  simp only [Bool.or_eq_true, beq_iff_eq] at h
  rcases h with (rfl | rfl) | rfl <;> rfl
theorem pos_neg (c : UInt8) : kiPos c < 0 ↔ isK c = false := by
  unfold kiPos isK
  by_cases h1 : c = 68
  · subst h1; decide
  · by_cases h2 : c = 70
    · subst h2; decide
    · by_cases h3 : c = 85
      · subst h3; decide
      · simp [h1, h2, h3]
end Go.Proofs.Ytachijliaedndaa
