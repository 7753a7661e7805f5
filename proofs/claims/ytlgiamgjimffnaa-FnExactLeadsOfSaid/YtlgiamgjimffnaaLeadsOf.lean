/- LeadsOf: behind how many steps a path is ahead, behind how many it is behind. -/
import Derived.Test.YtlgiamgjimffnaaAheadB
namespace Go.Proofs.Ytlgiamgjimffnaa
open Go.RowKit
def aboveV (s : ByteArray) : Int := (abv (mg s 1) (mgN s 1) : Nat)
def belowV (s : ByteArray) : Int := (blw (mg s 1) (mgN s 1) : Nat)
theorem balOk_one (s : ByteArray) : balOk s 1 = pathB s := by unfold balOk inK; simp
set_option maxHeartbeats 400000 in
theorem leadsOf_ret (s : ByteArray) (w : World) (hs : s.size ≤ maxLen) : Calls Try.prog 41 #[.string s] w (Ret w (.tuple #[.int .i64 (aboveV s), .int .i64 (belowV s), .bool (pathB s)])) := by
  have HL : Hid (∀ w, Calls Try.prog 77 #[.string s, .int .i64 1] w (IntsRet w (pathB s) (fr (mg s 1) (mgN s 1)))) := Lib.hid fun w => by rw [← balOk_one]; exact leadsN_ret s 1 w hs
  have hn := mgN_le s 1
  unfold aboveV belowV
  generalize pathB s = b at *
  generalize mg s 1 = f at *
  generalize mgN s 1 = n at *
  by_cases h0 : n = 0
  · subst h0
    go_enter Try.func41, Try.ntmps41
    go_wp2_with (go_at_call 77; refine (HL.out _).mono ?_; rintro e w1 ⟨v, rfl, hr, hb⟩; obtain ⟨A1, c1, rfl⟩ := hr.shape; rw [fr_length] at *; clear hr)
    refine wp_loop_rounds 1 ?_; rw [rounds_succ]
    go_wp2
    go_ret3
    exact ⟨rfl, hb⟩
  · go_enter Try.func41, Try.ntmps41
    go_wp2_with (go_at_call 77; refine (HL.out _).mono ?_; rintro e w1 ⟨v, rfl, hr, hb⟩; obtain ⟨g, c, rfl, hgB, hgl⟩ := hr.form' (fr_length _ _) (show 0 < n by omega); have H1 := Lib.hid hr; clear hr h0)
    go_loop [7, 8, 18] (fun p q i => ∃ j : Nat, j ≤ n ∧ i = .int .i64 j ∧ p = .int .i64 (abv f j : Nat) ∧ q = .int .i64 (blw f j : Nat)) (fun _ _ i => n - (intOf i).toNat)
    case atStart => exact ⟨0, Nat.zero_le _, rfl, rfl, rfl⟩
    case round =>
      obtain ⟨j, hj, rfl, rfl, rfl⟩ := hrel
      by_cases hlt : j < n
      · have e1 := H1.out.cell (j := j) (by rw [fr_length]; omega)
        rw [fr_get f n j hlt] at e1
        have h1 := abv_le f j
        have h2 := blw_le f j
        by_cases hp : 0 < f j
        · have HA := Lib.hid (abv_yes hp)
          have hq : ¬ f j < 0 := by omega
          have HB := Lib.hid (blw_no hq)
          go_wp2
          go_round
          case rel => exact ⟨j + 1, by omega, by go_num, by rw [HA.out]; go_num, by rw [HB.out]⟩
          case measure => first | (simp [intOf]; done) | (simp [intOf]; omega)
        · by_cases hq : f j < 0
          · have HA := Lib.hid (abv_no hp)
            have HB := Lib.hid (blw_yes hq)
            go_wp2
            go_round
            case rel => exact ⟨j + 1, by omega, by go_num, by rw [HA.out], by rw [HB.out]; go_num⟩
            case measure => first | (simp [intOf]; done) | (simp [intOf]; omega)
          · have HA := Lib.hid (abv_no hp)
            have HB := Lib.hid (blw_no hq)
            go_wp2
            go_round
            case rel => exact ⟨j + 1, by omega, by go_num, by rw [HA.out], by rw [HB.out]⟩
            case measure => first | (simp [intOf]; done) | (simp [intOf]; omega)
      · have HK : Hid (j = n) := by unfold Hid; omega
        go_wp2
        go_ret3
        exact ⟨by rw [← HK.out]; rfl, hb⟩
set_option maxHeartbeats 400000 in
theorem specLeadsOf_ret (s : ByteArray) (w : World) (hs : s.size ≤ maxLen) : Calls Try.prog 40 #[.string s] w (Ret w (.tuple #[.int .i64 (aboveV s), .int .i64 (belowV s), .bool (pathB s)])) := by
  rcases Bool.eq_false_or_eq_true (pathB s) with hp | hp
  · have HM : Hid (∀ w, Calls Try.prog 79 #[.string s, .int .i64 1] w (IntsNew w (fr (mg s 1) (s.size + 1)))) := Lib.hid fun w => baMargin_any s 1 w hp (by omega)
    have hn := mgN_le s 1
    have hnn := mgN_yes (s := s) (k := 1) (by rw [balOk_one]; exact hp)
    have H0 : Hid (mg s 1 0 = 0) := Lib.hid (mg_zero s 1)
    unfold aboveV belowV
    rw [← hnn] at HM
    have hn0 : 0 < mgN s 1 := by rw [hnn]; omega
    clear hnn
    generalize mg s 1 = f at *
    generalize mgN s 1 = n at *
    rw [hp]
    go_enter Try.func40, Try.ntmps40
    go_wp2_with (first | (go_at_call 85; refine (paGood_any s _ hs).mono ?_; rintro e w' ⟨rfl, rfl⟩) | (go_at_call 79; refine (HM.out _).mono ?_; rintro e w1 ⟨v, rfl, hr, hb⟩; obtain ⟨g, c, rfl, hgB, hgl⟩ := hr.form' (fr_length _ _) hn0; have H1 := Lib.hid hr; clear hr hn0))
    go_loop [5, 6, 15] (fun p q i => ∃ j : Nat, j ≤ n ∧ i = .int .i64 j ∧ p = .int .i64 (abv f j : Nat) ∧ q = .int .i64 (blw f j : Nat)) (fun _ _ i => n - (intOf i).toNat)
    case atStart => exact ⟨0, Nat.zero_le _, rfl, rfl, rfl⟩
    case round =>
      obtain ⟨j, hj, rfl, rfl, rfl⟩ := hrel
      by_cases hlt : j < n
      · have e1 := H1.out.cell (j := j) (by rw [fr_length]; omega)
        rw [fr_get f n j hlt] at e1
        have h1 := abv_le f j
        have h2 := blw_le f j
        by_cases hj0 : j = 0
        · subst hj0
          rw [H0.out] at e1
          have HA : Hid (abv f (0 + 1) = abv f 0) := Lib.hid (abv_no (by rw [H0.out]; omega))
          have HB : Hid (blw f (0 + 1) = blw f 0) := Lib.hid (blw_no (by rw [H0.out]; omega))
          go_wp2
          go_round
          case rel => exact ⟨0 + 1, by omega, by go_num, by rw [HA.out], by rw [HB.out]⟩
          case measure => first | (simp [intOf]; done) | (simp [intOf]; omega)
        · have hj1 : ((j : Int) == 0) = false := by simpa using hj0
          clear hj0
          by_cases hp : 0 < f j
          · have HA := Lib.hid (abv_yes hp)
            have hq : ¬ f j < 0 := by omega
            have HB := Lib.hid (blw_no hq)
            go_wp2
            go_round
            case rel => exact ⟨j + 1, by omega, by go_num, by rw [HA.out]; go_num, by rw [HB.out]⟩
            case measure => first | (simp [intOf]; done) | (simp [intOf]; omega)
          · by_cases hq : f j < 0
            · have HA := Lib.hid (abv_no hp)
              have HB := Lib.hid (blw_yes hq)
              go_wp2
              go_round
              case rel => exact ⟨j + 1, by omega, by go_num, by rw [HA.out], by rw [HB.out]; go_num⟩
              case measure => first | (simp [intOf]; done) | (simp [intOf]; omega)
            · have HA := Lib.hid (abv_no hp)
              have HB := Lib.hid (blw_no hq)
              go_wp2
              go_round
              case rel => exact ⟨j + 1, by omega, by go_num, by rw [HA.out], by rw [HB.out]⟩
              case measure => first | (simp [intOf]; done) | (simp [intOf]; omega)
      · have HK : Hid (j = n) := by unfold Hid; omega
        go_wp2
        go_ret3
        exact ⟨by rw [← HK.out]; rfl, hb⟩
  · have HA : Hid (aboveV s = 0) := by unfold Hid aboveV; rw [mgN_no (by rw [balOk_one]; exact hp)]; rfl
    have HB : Hid (belowV s = 0) := by unfold Hid belowV; rw [mgN_no (by rw [balOk_one]; exact hp)]; rfl
    rw [HA.out, HB.out, hp]
    go_enter Try.func40, Try.ntmps40
    go_wp2_with (go_at_call 85; refine (paGood_any s _ hs).mono ?_; rintro e w' ⟨rfl, rfl⟩)
    go_ret3
    exact ⟨rfl, Below.refl _ _⟩
end Go.Proofs.Ytlgiamgjimffnaa
