/- Pack 5 of what FnRotationsGood needs: InB, Deg. -/
import Derived.Test.YtmfcknlpbliehabKFnRotationsGood4
/- l1In: whether a number lies between two. -/
namespace Go.Proofs.Ytmfcknlpbliehab
open Go.RowKit
def inB (a lo hi : Int) : Bool := decide (lo ≤ a) && decide (a ≤ hi)
theorem inB_yes {a lo hi : Int} (h : lo ≤ a ∧ a ≤ hi) : inB a lo hi = true := by simp [inB, h]
theorem inB_no {a lo hi : Int} (h : ¬ (lo ≤ a ∧ a ≤ hi)) : inB a lo hi = false := by
  rw [Bool.eq_false_iff]; intro e; simp [inB] at e; exact h e
set_option maxHeartbeats 400000 in
theorem in_any (a lo hi : Int) (w : World) : Calls Try.prog 47 #[.int .i64 a, .int .i64 lo, .int .i64 hi] w fun e w' => e = .returned (.bool (inB a lo hi)) ∧ w = w' := by
  by_cases h1 : lo ≤ a
  · by_cases h2 : a ≤ hi
    · rw [inB_yes ⟨h1, h2⟩]
      go_enter Try.func47, Try.ntmps47
      go_wp2
      go_ret
      exact ⟨rfl, rfl⟩
    · rw [inB_no (fun h => h2 h.2)]
      go_enter Try.func47, Try.ntmps47
      go_wp2
      go_ret
      exact ⟨rfl, rfl⟩
  · rw [inB_no (fun h => h1 h.1)]
    go_enter Try.func47, Try.ntmps47
    go_wp2
    go_ret
    exact ⟨rfl, rfl⟩
end Go.Proofs.Ytmfcknlpbliehab

/- l1All, cyGood, IsDegrees, cyExcess, cyForest. -/
namespace Go.Proofs.Ytmfcknlpbliehab
open Go.RowKit
set_option linter.unusedVariables false
set_option maxHeartbeats 800000 in
theorem l1All_any (v : Value) (xs : List Int) (lo hi : Int) (w : World) (h : RInts w v xs) (hl : xs.length ≤ 1048576) :
    Calls Try.prog 59 #[v, .int .i64 lo, .int .i64 hi] w fun e w' => e = .returned (.bool (allB xs lo hi)) ∧ w = w' := by
  obtain ⟨A0, cap, rfl⟩ := h.shape
  have H := Lib.hid h
  clear h
  go_enter Try.func59, Try.ntmps59
  go_wp2
  go_loop [11] (fun i => ∃ k : Nat, k ≤ xs.length ∧ i = .int .i64 (k : Int) ∧ Hid (allB (xs.take k) lo hi = true)) (fun i => xs.length - (intOf i).toNat)
  case atStart => exact ⟨0, by omega, rfl, Lib.hid (by simp [allB])⟩
  case round =>
    obtain ⟨k, hk, rfl, HA⟩ := hrel
    by_cases hlt : k < xs.length
    · obtain ⟨g, o, cc, hv, hg, hcells⟩ := H.out.cells (by omega)
      have hA : A0 = some ⟨g, o, none⟩ := by injection hv
      subst hA
      clear hv
      have e1 := hcells k hlt
      clear hcells
      have HB := Lib.hid (allB_take HA.out hlt)
      have HN := Lib.hid (fun hx => allB_no (xs := xs) (lo := lo) (hi := hi) hlt hx)
      generalize xs.getD k 0 = x at *
      by_cases hin : inBd lo hi x = true
      · have HI : Hid (inB x lo hi = true) := Lib.hid hin
        rw [hin] at HB
        clear HN hin HA
        go_wp2_with (go_at_call 47; refine (in_any _ _ _ _).mono ?_; rintro e w' ⟨rfl, rfl⟩; rw [HI.out])
        go_round
        case rel => exact ⟨k + 1, by omega, by go_num, HB⟩
        case measure => first | (simp [intOf]; done) | (simp [intOf]; omega)
      · rw [Bool.not_eq_true] at hin
        have HI : Hid (inB x lo hi = false) := Lib.hid hin
        have HF := Lib.hid (HN.out hin)
        clear HN hin HA HB
        go_wp2_with (go_at_call 47; refine (in_any _ _ _ _).mono ?_; rintro e w' ⟨rfl, rfl⟩; rw [HI.out])
        go_ret
        exact ⟨ret_bool HF.out.symm, rfl⟩
    · have HK : Hid (allB xs lo hi = true) := by
        have := HA.out
        rwa [List.take_of_length_le (by omega)] at this
      go_wp2
      go_ret
      exact ⟨ret_bool HK.out.symm, rfl⟩
theorem cyGood_any (v : Value) (xs : List Int) (w : World) (h : RInts w v xs) (hl : xs.length ≤ 1048576) :
    Calls Try.prog 33 #[v] w fun e w' => e = .returned (.bool (degB xs)) ∧ w = w' := by
  obtain ⟨A0, cap, rfl⟩ := h.shape
  have H := Lib.hid h
  clear h
  by_cases hin : inBd 1 16 (xs.length : Nat) = true
  · have HI : Hid (inB (xs.length : Nat) 1 16 = true) := Lib.hid hin
    have e : degB xs = allB xs 0 16 := by unfold degB; rw [hin, Bool.true_and]
    rw [e]
    clear e hin
    go_enter Try.func33, Try.ntmps33
    go_wp2_with (first | (go_at_call 47; refine (in_any _ _ _ _).mono ?_; rintro e w' ⟨rfl, rfl⟩; rw [HI.out]) | (go_at_call 59; refine (l1All_any _ xs _ _ _ H.out hl).mono ?_; rintro e w' ⟨rfl, rfl⟩))
    go_ret
    exact ⟨rfl, rfl⟩
  · rw [Bool.not_eq_true] at hin
    have HI : Hid (inB (xs.length : Nat) 1 16 = false) := Lib.hid hin
    have e : degB xs = false := by unfold degB; rw [hin, Bool.false_and]
    rw [e]
    clear e hin
    go_enter Try.func33, Try.ntmps33
    go_wp2_with (first | (go_at_call 47; refine (in_any _ _ _ _).mono ?_; rintro e w' ⟨rfl, rfl⟩; rw [HI.out]) | (go_at_call 59; refine (l1All_any _ xs _ _ _ H.out hl).mono ?_; rintro e w' ⟨rfl, rfl⟩))
    go_ret
    exact ⟨rfl, rfl⟩
theorem specIsDegrees_ret (v : Value) (xs : List Int) (w : World) (h : RInts w v xs) (hl : xs.length ≤ 1048576) :
    Calls Try.prog 13 #[v] w (Ret w (.bool (degB xs))) := by
  have H := Lib.hid h
  clear h
  go_enter Try.func13, Try.ntmps13
  go_wp2_with (go_at_call 33; refine (cyGood_any _ xs _ H.out hl).mono ?_; rintro e w' ⟨rfl, rfl⟩)
  go_ret
  exact ⟨rfl, Below.refl _ _⟩
set_option maxHeartbeats 800000 in
theorem cyExcess_any (v : Value) (xs : List Int) (w : World) (h : RInts w v xs) (hd : degB xs = true) :
    Calls Try.prog 36 #[v] w fun e w' => e = .returned (.int .i64 (exc xs)) ∧ w = w' := by
  obtain ⟨A0, cap, rfl⟩ := h.shape
  have H := Lib.hid h
  have hn := (degB_of hd).1
  have HD := Lib.hid hd
  clear h hd
  go_enter Try.func36, Try.ntmps36
  go_wp2
  go_loop [3, 10] (fun r i => ∃ k : Nat, k ≤ xs.length ∧ i = .int .i64 (k : Int) ∧ ∃ S : Int, r = .int .i64 ((xs.length : Int) - S) ∧ S = sumT xs k) (fun _ i => xs.length - (intOf i).toNat)
  case atStart => exact ⟨0, by omega, rfl, 0, by go_num, (sumT_0 xs).symm⟩
  case round =>
    obtain ⟨k, hk, rfl, S, rfl, hS⟩ := hrel
    have hS1 := sumT_bd HD.out k hk
    rw [← hS] at hS1
    by_cases hlt : k < xs.length
    · obtain ⟨g, o, cc, hv, hg, hcells⟩ := H.out.cells (by omega)
      have hA : A0 = some ⟨g, o, none⟩ := by injection hv
      subst hA
      clear hv
      have e1 := hcells k hlt
      clear hcells
      have hx := (degB_of HD.out).2 k hlt
      have HS := Lib.hid (sumT_succ xs k hlt)
      rw [← hS] at HS
      generalize xs.getD k 0 = x at *
      clear hS
      go_wp2
      go_round
      case rel => exact ⟨k + 1, by omega, by go_num, S + x, by go_num, HS.out.symm⟩
      case measure => first | (simp [intOf]; done) | (simp [intOf]; omega)
    · have hk2 : k = xs.length := by omega
      have HE : Hid ((xs.length : Int) - S = exc xs) := by unfold Hid exc; rw [hS, hk2]
      clear hS
      go_wp2
      go_ret
      rw [HE.out]
      exact ⟨rfl, rfl⟩
def excV (xs : List Int) : Int := if degB xs then exc xs else 0
theorem specExcessOf_ret (v : Value) (xs : List Int) (w : World) (h : RInts w v xs) (hl : xs.length ≤ 1048576) :
    Calls Try.prog 10 #[v] w (Ret w (.tuple #[.int .i64 (excV xs), .bool (degB xs)])) := by
  have H := Lib.hid h
  clear h
  rcases Bool.eq_false_or_eq_true (degB xs) with hd | hd
  · have HD := Lib.hid hd
    have HG : Hid (∀ w, RInts w v xs → Calls Try.prog 33 #[v] w fun e w' => e = .returned (.bool true) ∧ w = w') := Lib.hid fun w h => by rw [← hd]; exact cyGood_any v xs w h hl
    unfold excV
    rw [hd, if_pos rfl]
    clear hd
    go_enter Try.func10, Try.ntmps10
    go_wp2_with (first | (go_at_call 33; refine (HG.out _ H.out).mono ?_; rintro e w' ⟨rfl, rfl⟩) | (go_at_call 36; refine (cyExcess_any _ xs _ H.out HD.out).mono ?_; rintro e w' ⟨rfl, rfl⟩))
    go_ret2
    exact ⟨rfl, Below.refl _ _⟩
  · have HG : Hid (∀ w, RInts w v xs → Calls Try.prog 33 #[v] w fun e w' => e = .returned (.bool false) ∧ w = w') := Lib.hid fun w h => by rw [← hd]; exact cyGood_any v xs w h hl
    unfold excV
    rw [hd, if_neg (by simp)]
    clear hd
    go_enter Try.func10, Try.ntmps10
    go_wp2_with (go_at_call 33; refine (HG.out _ H.out).mono ?_; rintro e w' ⟨rfl, rfl⟩)
    go_ret2
    exact ⟨rfl, Below.refl _ _⟩
set_option maxHeartbeats 1600000 in
theorem cyForest_any (v : Value) (xs : List Int) (w : World) (h : RInts w v xs) (hd : degB xs = true) :
    Calls Try.prog 34 #[v] w fun e w' => e = .returned (.bool (forB xs)) ∧ w = w' := by
  obtain ⟨A0, cap, rfl⟩ := h.shape
  have H := Lib.hid h
  have hn := (degB_of hd).1
  have HD := Lib.hid hd
  have hb := sumT_bd hd xs.length (Nat.le_refl _)
  have HX : Hid (∀ w, RInts w (.slice A0 xs.length cap) xs → Calls Try.prog 36 #[.slice A0 xs.length cap] w fun e w' => e = .returned (.int .i64 (exc xs)) ∧ w = w') := Lib.hid fun w h => cyExcess_any _ xs w h hd
  have hbd : -240 ≤ exc xs ∧ exc xs ≤ 16 := by unfold exc; omega
  have HLOW := Lib.hid (forB_low (xs := xs))
  have HNO := Lib.hid (fun k => forB_no (xs := xs) (k := k))
  have HYES := Lib.hid (forB_yes (xs := xs))
  have HST := Lib.hid (fun k => upB_step (xs := xs) (r := exc xs) (k := k))
  have H0 : Hid (upB xs (exc xs) 0 = true) := Lib.hid rfl
  clear h hd hb
  generalize exc xs = r at *
  generalize forB xs = R at *
  by_cases hr1 : r < 1
  · have e := HLOW.out hr1
    subst e
    clear HLOW HNO HYES HST
    go_enter Try.func34, Try.ntmps34
    go_wp2_with (go_at_call 36; refine (HX.out _ H.out).mono ?_; rintro e w' ⟨rfl, rfl⟩)
    go_ret
    exact ⟨rfl, rfl⟩
  · go_enter Try.func34, Try.ntmps34
    go_wp2_with (go_at_call 36; refine (HX.out _ H.out).mono ?_; rintro e w' ⟨rfl, rfl⟩)
    go_loop [4, 13] (fun t i => ∃ k : Nat, k ≤ xs.length ∧ i = .int .i64 (k : Int) ∧ ∃ T : Int, t = .int .i64 T ∧ T = sumT xs k - (k : Int) ∧ Hid (upB xs r k = true)) (fun _ i => xs.length - (intOf i).toNat)
    case atStart => exact ⟨0, by omega, rfl, 0, rfl, by rw [sumT_0]; rfl, H0⟩
    case round =>
      obtain ⟨k, hk, rfl, T, rfl, hT, HU⟩ := hrel
      have hT1 := sumT_bd HD.out k hk
      have hT2 : -16 ≤ T ∧ T ≤ 256 := by omega
      by_cases hlt : k < xs.length
      · obtain ⟨g, o, cc, hv, hg, hcells⟩ := H.out.cells (by omega)
        have hA : A0 = some ⟨g, o, none⟩ := by injection hv
        subst hA
        clear hv
        have e1 := hcells k hlt
        clear hcells
        have hx := (degB_of HD.out).2 k hlt
        have HS := Lib.hid (sumT_succ xs k hlt)
        have HN2 := Lib.hid (HNO.out k)
        have HS2 := Lib.hid (HST.out k HU.out)
        have HT3 : Hid (T + (xs.getD k 0 - 1) = sumT xs (k + 1) - ((k + 1 : Nat) : Int)) := by have := HS.out; unfold Hid; omega
        clear HNO HST HYES HLOW hT hT1 HS
        generalize xs.getD k 0 = x at *
        rw [← HT3.out] at HN2 HS2
        by_cases c1 : T + (x - 1) ≤ -r
        · by_cases c2 : k + 1 < xs.length
          · have HF := Lib.hid (HN2.out c1 c2)
            clear HN2 HS2 HU
            go_wp2
            go_ret
            exact ⟨ret_bool HF.out.symm, rfl⟩
          · have HU2 := Lib.hid (HS2.out (fun h => c2 h.2))
            clear HN2 HS2 HU
            go_wp2
            go_round
            case rel => exact ⟨k + 1, by omega, by go_num, T + (x - 1), by go_num, HT3.out, HU2⟩
            case measure => first | (simp [intOf]; done) | (simp [intOf]; omega)
        · have HU2 := Lib.hid (HS2.out (fun h => c1 h.1))
          clear HN2 HS2 HU
          go_wp2
          go_round
          case rel => exact ⟨k + 1, by omega, by go_num, T + (x - 1), by go_num, HT3.out, HU2⟩
          case measure => first | (simp [intOf]; done) | (simp [intOf]; omega)
      · have hk2 : k = xs.length := by omega
        have HE : Hid (R = true) := by
          have := HU.out
          rw [hk2] at this
          exact Lib.hid (HYES.out (by omega) this)
        clear HNO HST HYES HLOW hT hT1
        go_wp2
        go_ret
        exact ⟨ret_bool HE.out.symm, rfl⟩
def forV (xs : List Int) : Bool := degB xs && forB xs
end Go.Proofs.Ytmfcknlpbliehab
