/- Pack 11 of what FnExactOrderedOfRank needs: HeightsR, Deg. -/
import Derived.Test.YtmfcknlpbliehaaKFnExactOrderedOfRank10
/- spec.HeightsOf; both in one form. -/
namespace Go.Proofs.Ytmfcknlpbliehaa
open Go.RowKit
def htsV (s : ByteArray) : List Int := if pathB s then hts s else []
theorem htsV_len (s : ByteArray) (h : ¬ 1048576 < s.size) : (htsV s).length ≤ 1048577 := by
  unfold htsV; split
  · rw [hts_length]; omega
  · simp
end Go.Proofs.Ytmfcknlpbliehaa

/- l1All, cyGood, IsDegrees, cyExcess, cyForest. -/
namespace Go.Proofs.Ytmfcknlpbliehaa
open Go.RowKit
set_option linter.unusedVariables false
set_option maxHeartbeats 800000 in
theorem l1All_any (v : Value) (xs : List Int) (lo hi : Int) (w : World) (h : RInts w v xs) (hl : xs.length ≤ 1048576) :
    Calls Try.prog 17 #[v, .int .i64 lo, .int .i64 hi] w fun e w' => e = .returned (.bool (allB xs lo hi)) ∧ w = w' := by
  obtain ⟨A0, cap, rfl⟩ := h.shape
  have H := Lib.hid h
  clear h
  go_enter Try.func17, Try.ntmps17
  go_wp2
  go_loop [11] (fun i => ∃ k : Nat, k ≤ xs.length ∧ i = .int .i64 (k : Int) ∧ Hid (allB (xs.take k) lo hi = true)) (fun i => xs.length - (intOf i).toNat)
  case atStart => exact ⟨0, by omega, rfl, Lib.hid (by simp [allB])⟩
  case round =>
    obtain ⟨k, hk, rfl, HA⟩ := hrel
    by_cases hlt : k < xs.length
    · obtain ⟨g, o, cc, hv, hg, hcells⟩ := H.out.cells (by omega)
      have hA : A0 = some ⟨g, o, none⟩ := by injection hv
      subst hA
      clear hv
      have e1 := hcells k hlt
      clear hcells
      have HB := Lib.hid (allB_take HA.out hlt)
      have HN := Lib.hid (fun hx => allB_no (xs := xs) (lo := lo) (hi := hi) hlt hx)
      generalize xs.getD k 0 = x at *
      by_cases hin : inBd lo hi x = true
      · have HI : Hid (inB x lo hi = true) := Lib.hid hin
        rw [hin] at HB
        clear HN hin HA
        go_wp2_with (go_at_call 9; refine (in_any _ _ _ _).mono ?_; rintro e w' ⟨rfl, rfl⟩; rw [HI.out])
        go_round
        case rel => exact ⟨k + 1, by omega, by go_num, HB⟩
        case measure => first | (simp [intOf]; done) | (simp [intOf]; omega)
      · rw [Bool.not_eq_true] at hin
        have HI : Hid (inB x lo hi = false) := Lib.hid hin
        have HF := Lib.hid (HN.out hin)
        clear HN hin HA HB
        go_wp2_with (go_at_call 9; refine (in_any _ _ _ _).mono ?_; rintro e w' ⟨rfl, rfl⟩; rw [HI.out])
        go_ret
        exact ⟨ret_bool HF.out.symm, rfl⟩
    · have HK : Hid (allB xs lo hi = true) := by
        have := HA.out
        rwa [List.take_of_length_le (by omega)] at this
      go_wp2
      go_ret
      exact ⟨ret_bool HK.out.symm, rfl⟩
def excV (xs : List Int) : Int := if degB xs then exc xs else 0
def forV (xs : List Int) : Bool := degB xs && forB xs
end Go.Proofs.Ytmfcknlpbliehaa
