/- Pack 20 of what FnRecordsTold needs: NbS, ToS. -/
import Derived.Test.YtachijliaedndaaKFnRecordsTold19
/- CountNeverBack, CountGoodClosed: both sides. -/
namespace Go.Proofs.Ytachijliaedndaa
open Go.RowKit
set_option linter.unusedVariables false
def nbF (m : Nat) : Int := ((chs (2 * m) m : Nat) : Int)
def gcF (m : Nat) : Int := ((chs (2 * m) m / (m + 1) : Nat) : Int)
theorem neverBackI_ret (n : Int) (w : World) : Calls Try.prog 68 #[.int .i64 n] w (Ret w (.tuple #[.int .i64 (prZ nbF n), .bool (prB n)])) := by
  have HP := Lib.hid (isPairs_any n)
  rcases Bool.eq_false_or_eq_true (prB n) with h | h
  · obtain ⟨m, rfl, hm⟩ := prB_of h
    have HC := Lib.hid (count_ret (m : Int) (m : Int))
    rw [cntOk_yes (by omega), cntV_yes (by omega)] at HC
    rw [prZ_yes _ h, h]
    rw [h] at HP
    unfold nbF
    rw [show 2 * m = m + m by omega]
    generalize ((chs (m + m) m : Nat) : Int) = c at *
    go_enter Try.func68, Try.ntmps68
    go_wp2_with (first | (go_at_call 192; refine (HP.out _).mono ?_; rintro e w1 ⟨rfl, hb1⟩) | (go_at_call 71; refine (HC.out _).mono ?_; rintro e w2 ⟨rfl, rfl⟩))
    go_ret2
    exact ⟨rfl, hb1⟩
  · rw [prZ_no _ h, h]
    rw [h] at HP
    go_enter Try.func68, Try.ntmps68
    go_wp2_with (go_at_call 192; refine (HP.out _).mono ?_; rintro e w1 ⟨rfl, hb1⟩)
    go_ret2
    exact ⟨rfl, hb1⟩
theorem specNeverBack_ret (n : Int) (w : World) : Calls Try.prog 69 #[.int .i64 n] w (Ret w (.tuple #[.int .i64 (prZ nbF n), .bool (prB n)])) := by
  have HG := Lib.hid (reGood_any n)
  rcases Bool.eq_false_or_eq_true (prB n) with h | h
  · obtain ⟨m, rfl, hm⟩ := prB_of h
    have HC := Lib.hid (fun w => choose_ret (2 * (m : Int)) (m : Int) w (by omega))
    rw [show (2 * (m : Int)) = ((2 * m : Nat) : Int) by omega, chZ_nat] at HC
    rw [show ((2 * m : Nat) : Int) = 2 * (m : Int) by omega] at HC
    rw [prZ_yes _ h, h]
    rw [h] at HG
    unfold nbF
    generalize ((chs (2 * m) m : Nat) : Int) = c at *
    go_enter Try.func69, Try.ntmps69
    go_wp2_with (first | (go_at_call 193; refine (HG.out _).mono ?_; rintro e w1 ⟨rfl, rfl⟩) | (go_at_call 195; refine (HC.out _).mono ?_; rintro e w2 ⟨rfl, hb2⟩))
    go_ret2
    exact ⟨rfl, hb2⟩
  · rw [prZ_no _ h, h]
    rw [h] at HG
    go_enter Try.func69, Try.ntmps69
    go_wp2_with (go_at_call 193; refine (HG.out _).mono ?_; rintro e w1 ⟨rfl, rfl⟩)
    go_ret2
    exact ⟨rfl, Below.refl _ _⟩
theorem never_gc {m : Nat} (hm : m ≤ 15) : neverV m m 1 = gcF m ∧ allOk m m 1 = true := by
  have h1 : allOk m m 1 = true := Asked.ok (a := m) (b := m) (k := 1) (by constructor <;> omega)
  refine ⟨?_, h1⟩
  rw [neverV_yes h1, neverN_2 (by omega), cntV_yes (by omega)]
  unfold gcF
  rw [show (m : Int) + 1 - 1 * (m : Int) = 1 by omega, Int.mul_one, Int.natCast_ediv, show 2 * m = m + m by omega]
  rfl
end Go.Proofs.Ytachijliaedndaa

/- The model's counts by reflections: l1Abs, miTo, miTouching, CountTouching, CountAbove, CountHighest. -/
namespace Go.Proofs.Ytachijliaedndaa
open Go.RowKit
set_option linter.unusedVariables false
theorem absI_any (a : Int) (w : World) (ha : -1000000 ≤ a ∧ a ≤ 1000000) : Calls Try.prog 211 #[.int .i64 a] w fun e w' => e = .returned (.int .i64 (if a < -a then -a else a)) ∧ w = w' := by
  have HM := Lib.hid (most_any a (-a))
  obtain ⟨a1, a2⟩ := ha
  go_enter Try.func211, Try.ntmps211
  go_wp2_with (go_at_call 214; refine (HM.out _).mono ?_; rintro e w' ⟨rfl, rfl⟩)
  all_goals go_ret
  all_goals exact ⟨rfl, rfl⟩
set_option maxHeartbeats 400000 in
theorem miTo_ret (n h : Int) (w : World) (hn : 0 ≤ n ∧ n ≤ 40) (hh : -1000000 ≤ h ∧ h ≤ 1000000) : Calls Try.prog 204 #[.int .i64 n, .int .i64 h] w (Ret w (.int .i64 (toZ n h))) := by
  have HA : Hid (∀ w, Calls Try.prog 211 #[.int .i64 h] w fun e w' => e = .returned (.int .i64 (if h < -h then -h else h)) ∧ w = w') := Lib.hid fun w => absI_any h w hh
  obtain ⟨n1, n2⟩ := hn
  obtain ⟨h1, h2⟩ := hh
  by_cases ho : (n + h) % 2 = 0
  · have t0 : (n + h).tmod 2 = 0 := Int.tmod_eq_zero_of_dvd (Int.dvd_of_emod_eq_zero ho)
    by_cases hb : h < -n ∨ n < h
    · have e : toZ n h = 0 := by unfold toZ; rw [if_pos (.inr hb)]
      have c0 : n < (if h < -h then -h else h) := by split <;> omega
      rw [e]
      clear e hb ho
      generalize (if h < -h then -h else h) = z at *
      go_enter Try.func204, Try.ntmps204
      go_wp2_with (go_at_call 211; refine (HA.out _).mono ?_; rintro e w' ⟨rfl, rfl⟩)
      go_ret
      exact ⟨rfl, Below.refl _ _⟩
    · have e : toZ n h = chZ n ((n + h) / 2) := by unfold toZ; rw [if_neg (by omega)]
      have c0 : ¬ n < (if h < -h then -h else h) := by split <;> omega
      have HC : Hid (∀ w, Calls Try.prog 195 #[.int .i64 n, .int .i64 ((n + h).tdiv 2)] w (Ret w (.int .i64 (chZ n ((n + h) / 2))))) := Lib.hid fun w => by
        have := choose_ret n ((n + h) / 2) w (by omega)
        rw [Int.tdiv_eq_ediv_of_nonneg (by omega)]
        exact this
      rw [e]
      clear e hb ho
      generalize (if h < -h then -h else h) = z at *
      go_enter Try.func204, Try.ntmps204
      go_wp2_with (first | (go_at_call 211; refine (HA.out _).mono ?_; rintro e w' ⟨rfl, rfl⟩) | (go_at_call 195; refine (HC.out _).mono ?_; rintro e w1 ⟨rfl, hb1⟩))
      go_ret
      exact ⟨rfl, hb1⟩
  · have e : toZ n h = 0 := by unfold toZ; rw [if_pos (.inl ho)]
    have t0 : ¬ (n + h).tmod 2 = 0 := fun q => ho (Int.emod_eq_zero_of_dvd (Int.dvd_of_tmod_eq_zero q))
    rw [e]
    clear e ho
    generalize (if h < -h then -h else h) = z at *
    go_enter Try.func204, Try.ntmps204
    go_wp2_with (go_at_call 211; refine (HA.out _).mono ?_; rintro e w' ⟨rfl, rfl⟩)
    go_ret
    exact ⟨rfl, Below.refl _ _⟩
set_option maxHeartbeats 400000 in
theorem miTouching_ret (n e h : Int) (w : World) (hn : 0 ≤ n ∧ n ≤ 40) (he : -40 ≤ e ∧ e ≤ 40) (hh : -1000 ≤ h ∧ h ≤ 1000) : Calls Try.prog 205 #[.int .i64 n, .int .i64 e, .int .i64 h] w (Ret w (.int .i64 (tchZ n e h))) := by
  have HL := Lib.hid (least_any 0 e)
  have HM := Lib.hid (most_any 0 e)
  have H1 : Hid (∀ w, Calls Try.prog 204 #[.int .i64 n, .int .i64 e] w (Ret w (.int .i64 (toZ n e)))) := Lib.hid fun w => miTo_ret n e w hn (by omega)
  have H2 : Hid (∀ w, Calls Try.prog 204 #[.int .i64 n, .int .i64 (2 * h - e)] w (Ret w (.int .i64 (toZ n (2 * h - e))))) := Lib.hid fun w => miTo_ret n (2 * h - e) w hn (by omega)
  have HI := Lib.hid (in_any h (if e < 0 then e else 0) (if 0 < e then e else 0))
  have E1 : (if 0 < e then 0 else e) = (if e < 0 then e else 0) := by split <;> split <;> omega
  have E2 : (if e < 0 then 0 else e) = (if 0 < e then e else 0) := by split <;> split <;> omega
  have E : tchZ n e h = if inB h (if e < 0 then e else 0) (if 0 < e then e else 0) = true then toZ n e else toZ n (2 * h - e) := by unfold tchZ; rw [E1, E2]
  clear E1 E2
  obtain ⟨h1, h2⟩ := hh
  obtain ⟨e1, e2⟩ := he
  clear hn
  generalize (if e < 0 then e else 0) = l at *
  generalize (if 0 < e then e else 0) = m at *
  rcases Bool.eq_false_or_eq_true (inB h l m) with hi | hi
  · rw [E, if_pos hi]
    clear E
    go_enter Try.func205, Try.ntmps205
    go_wp2_with (first | (go_at_call 229; refine (HL.out _).mono ?_; rintro e w' ⟨rfl, rfl⟩) | (go_at_call 214; refine (HM.out _).mono ?_; rintro e w' ⟨rfl, rfl⟩) | (go_at_call 173; refine (HI.out _).mono ?_; rintro e w' ⟨rfl, rfl⟩) | (go_at_call 204; refine (H1.out _).mono ?_; rintro e w1 ⟨rfl, hb1⟩))
    go_ret
    exact ⟨rfl, hb1⟩
  · rw [E, if_neg (by rw [hi]; simp)]
    clear E
    go_enter Try.func205, Try.ntmps205
    go_wp2_with (first | (go_at_call 229; refine (HL.out _).mono ?_; rintro e w' ⟨rfl, rfl⟩) | (go_at_call 214; refine (HM.out _).mono ?_; rintro e w' ⟨rfl, rfl⟩) | (go_at_call 173; refine (HI.out _).mono ?_; rintro e w' ⟨rfl, rfl⟩) | (go_at_call 204; refine (H2.out _).mono ?_; rintro e w1 ⟨rfl, hb1⟩))
    go_ret
    exact ⟨rfl, hb1⟩
end Go.Proofs.Ytachijliaedndaa
