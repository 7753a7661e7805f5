/- Pack 13 of what FnExactAllOrdered needs: HeightsR, Deg. -/
import Derived.Test.YtnlcainfkchieaaKFnExactAllOrdered12
/- spec.HeightsOf; both in one form. -/
namespace Go.Proofs.Ytnlcainfkchieaa
open Go.RowKit
def htsV (s : ByteArray) : List Int := if pathB s then hts s else []
theorem htsV_len (s : ByteArray) (h : ¬ 1048576 < s.size) : (htsV s).length ≤ 1048577 := by
  unfold htsV; split
  · rw [hts_length]; omega
  · simp
end Go.Proofs.Ytnlcainfkchieaa

/- l1All, cyGood, IsDegrees, cyExcess, cyForest. -/
namespace Go.Proofs.Ytnlcainfkchieaa
open Go.RowKit
set_option linter.unusedVariables false
set_option maxHeartbeats 800000 in
theorem l1All_any (v : Value) (xs : List Int) (lo hi : Int) (w : World) (h : RInts w v xs) (hl : xs.length ≤ 1048576) :
    Calls Try.prog 60 #[v, .int .i64 lo, .int .i64 hi] w fun e w' => e = .returned (.bool (allB xs lo hi)) ∧ w = w' := by
  obtain ⟨A0, cap, rfl⟩ := h.shape
  have H := Lib.hid h
  clear h
  go_enter Try.func60, Try.ntmps60
  go_wp2
  go_loop [11] (fun i => ∃ k : Nat, k ≤ xs.length ∧ i = .int .i64 (k : Int) ∧ Hid (allB (xs.take k) lo hi = true)) (fun i => xs.length - (intOf i).toNat)
  case atStart => exact ⟨0, by omega, rfl, Lib.hid (by simp [allB])⟩
  case round =>
    obtain ⟨k, hk, rfl, HA⟩ := hrel
    by_cases hlt : k < xs.length
    · obtain ⟨g, o, cc, hv, hg, hcells⟩ := H.out.cells (by omega)
      have hA : A0 = some ⟨g, o, none⟩ := by injection hv
      subst hA
      clear hv
      have e1 := hcells k hlt
      clear hcells
      have HB := Lib.hid (allB_take HA.out hlt)
      have HN := Lib.hid (fun hx => allB_no (xs := xs) (lo := lo) (hi := hi) hlt hx)
      generalize xs.getD k 0 = x at *
      by_cases hin : inBd lo hi x = true
      · have HI : Hid (inB x lo hi = true) := Lib.hid hin
        rw [hin] at HB
        clear HN hin HA
        go_wp2_with (go_at_call 54; refine (in_any _ _ _ _).mono ?_; rintro e w' ⟨rfl, rfl⟩; rw [HI.out])
        go_round
        case rel => exact ⟨k + 1, by omega, by go_num, HB⟩
        case measure => first | (simp [intOf]; done) | (simp [intOf]; omega)
      · rw [Bool.not_eq_true] at hin
        have HI : Hid (inB x lo hi = false) := Lib.hid hin
        have HF := Lib.hid (HN.out hin)
        clear HN hin HA HB
        go_wp2_with (go_at_call 54; refine (in_any _ _ _ _).mono ?_; rintro e w' ⟨rfl, rfl⟩; rw [HI.out])
        go_ret
        exact ⟨ret_bool HF.out.symm, rfl⟩
    · have HK : Hid (allB xs lo hi = true) := by
        have := HA.out
        rwa [List.take_of_length_le (by omega)] at this
      go_wp2
      go_ret
      exact ⟨ret_bool HK.out.symm, rfl⟩
set_option maxHeartbeats 800000 in
theorem cyExcess_any (v : Value) (xs : List Int) (w : World) (h : RInts w v xs) (hd : degB xs = true) :
    Calls Try.prog 38 #[v] w fun e w' => e = .returned (.int .i64 (exc xs)) ∧ w = w' := by
  obtain ⟨A0, cap, rfl⟩ := h.shape
  have H := Lib.hid h
  have hn := (degB_of hd).1
  have HD := Lib.hid hd
  clear h hd
  go_enter Try.func38, Try.ntmps38
  go_wp2
  go_loop [3, 10] (fun r i => ∃ k : Nat, k ≤ xs.length ∧ i = .int .i64 (k : Int) ∧ ∃ S : Int, r = .int .i64 ((xs.length : Int) - S) ∧ S = sumT xs k) (fun _ i => xs.length - (intOf i).toNat)
  case atStart => exact ⟨0, by omega, rfl, 0, by go_num, (sumT_0 xs).symm⟩
  case round =>
    obtain ⟨k, hk, rfl, S, rfl, hS⟩ := hrel
    have hS1 := sumT_bd HD.out k hk
    rw [← hS] at hS1
    by_cases hlt : k < xs.length
    · obtain ⟨g, o, cc, hv, hg, hcells⟩ := H.out.cells (by omega)
      have hA : A0 = some ⟨g, o, none⟩ := by injection hv
      subst hA
      clear hv
      have e1 := hcells k hlt
      clear hcells
      have hx := (degB_of HD.out).2 k hlt
      have HS := Lib.hid (sumT_succ xs k hlt)
      rw [← hS] at HS
      generalize xs.getD k 0 = x at *
      clear hS
      go_wp2
      go_round
      case rel => exact ⟨k + 1, by omega, by go_num, S + x, by go_num, HS.out.symm⟩
      case measure => first | (simp [intOf]; done) | (simp [intOf]; omega)
    · have hk2 : k = xs.length := by omega
      have HE : Hid ((xs.length : Int) - S = exc xs) := by unfold Hid exc; rw [hS, hk2]
      clear hS
      go_wp2
      go_ret
      rw [HE.out]
      exact ⟨rfl, rfl⟩
def excV (xs : List Int) : Int := if degB xs then exc xs else 0
def forV (xs : List Int) : Bool := degB xs && forB xs
end Go.Proofs.Ytnlcainfkchieaa
