/- CountByReturns, CountByFirstRun: both sides. -/
import Derived.Test.YtnlmjeakdjmohaaPkB
import Derived.Test.YtnlmjeakdjmohaaRankI
namespace Go.Proofs.Ytnlmjeakdjmohaa
open Go.RowKit
set_option linter.unusedVariables false
def rtF (m k : Nat) : Int := ((numN m k : Nat) : Int)
theorem rt_zero {m : Nat} (hm : 0 < m) : rtF m 0 = 0 := by unfold rtF numN; rw [if_pos (.inr rfl), if_neg (by omega)]; rfl
theorem rt_form {m k : Nat} (h0 : 1 ≤ k) (hk : k ≤ m) : numN m k = chs (2 * m - k) m * k / (2 * m - k) := by
  unfold numN
  rw [if_neg (by omega), if_neg (by omega)]
theorem rt_bd {m k : Nat} (hm : m ≤ 15) (hk : k ≤ m) : numN m k ≤ 16106127360 := by
  by_cases h0 : k = 0
  · subst h0
    unfold numN
    rw [if_pos (.inr rfl)]
    split <;> omega
  · rw [rt_form (by omega) hk]
    have h1 := Nat.mul_le_mul (chs_30 (n := 2 * m - k) (k := m) (by omega)) (show k ≤ 15 by omega)
    have h2 := Nat.div_le_self (chs (2 * m - k) m * k) (2 * m - k)
    omega
set_option maxRecDepth 100000 in
set_option maxHeartbeats 800000 in
theorem byReturnsI_ret (n : Int) (w : World) : Calls Try.prog 44 #[.int .i64 n] w (IntsRet w (prB n) (prL rtF n)) := by
  have HP := Lib.hid (isPairs_any n)
  rcases Bool.eq_false_or_eq_true (prB n) with h | h
  case inr =>
    rw [prL_no _ h, h]
    rw [h] at HP
    go_enter Try.func44, Try.ntmps44
    go_wp2_with (go_at_call 87; refine (HP.out _).mono ?_; rintro e w1 ⟨rfl, hb1⟩)
    go_ret2
    exact ⟨_, rfl, IRow.nil _ _, hb1⟩
  obtain ⟨m, rfl, hm⟩ := prB_of h
  rw [prL_yes _ h, h]
  rw [h] at HP
  clear h
  obtain ⟨i0, hi0, hz0, hz1, hz2⟩ := info_parts intInfo
  go_enter Try.func44, Try.ntmps44
  go_wp2_with (first | (go_at_call 87; refine (HP.out _).mono ?_; rintro e w1 ⟨rfl, hb1⟩) | (refine wpList_make_full _ rfl (.tmp 10) (.tmp 10) 44 rfl w1.heap.size 3 i0 (.int .i64 0) 1 Try.underlying44 hi0 hz0 hz1 .i64 .i64 _ _ (m + 1) rfl rfl (by omega) (by omega) (by rw [hz2]; omega) (by unfold maxLen; omega) (Nat.le_refl _) ?_; intro w2 hown1 hgrow1))
  have hrow1 : IRow w2 w1.heap.size (.slice (some ⟨w1.heap.size, 0, none⟩) (m + 1) (m + 1)) (fil (rtF m) (m + 1) 0) :=
    IRow.of_own hown1 (by simp [fil_length]) (by rw [fil_zero, madeOne _ rfl]; simp)
  have hb2 : Below w1.heap.size w1 w2 := (Below.refl _ _).grown hgrow1 (Nat.le_refl _) (by simp)
  clear hown1 hgrow1
  go_loopw [5, 14] (fun a0 i wr => ∃ j : Nat, 0 ≤ j ∧ j ≤ m + 1 ∧ i = .int .i64 (j : Int) ∧ IRow wr w1.heap.size (.slice (some ⟨w1.heap.size, 0, none⟩) (m + 1) (m + 1)) (fil (rtF m) (m + 1) j) ∧ Below w1.heap.size w1 wr) (fun _ i _ => m + 1 - (intOf i).toNat)
  case atStart => exact ⟨0, Nat.le_refl _, by omega, rfl, hrow1, hb2⟩
  case round =>
    obtain ⟨j, hj0, hj, rfl, hrow, hb⟩ := hrel
    by_cases hlt : j < m + 1
    · have hsz := hb.size
      have hgl := (hrow.blk _ rfl).2
      have H1 : Hid (∀ w, Calls Try.prog 92 #[.int .i64 (j : Int), .int .i64 (m : Int)] w fun e w' => e = .returned (.int .i64 ((numN m j : Nat) : Int)) ∧ w = w') := Lib.hid fun w => countOf_any m j w (by omega) (by omega)
      have HS : Hid (rtF m j = ((numN m j : Nat) : Int)) := Lib.hid rfl
      have m1 := rt_bd hm (show j ≤ m by omega)
      generalize numN m j = o1 at *
      have i1 : (j : Int) < (m : Int) + 1 := by omega
      have i1' : (j : Int) ≤ (m : Int) := by omega
      have i2 : 0 ≤ (j : Int) := by omega
      have tok1 : True := trivial
      have hst := (hrow.set j (rtF m j)).1
      rw [fil_set] at hst
      rw [HS.out] at hst
      have HST := Lib.hid hst
      have hf3 := hrow.free j
      have hc3 := hrow.cell (j := j) (by rw [fil_length]; omega)
      clear hrow hrow1 hb2 hst HS
      go_wp2_with (first
        | (go_at_call 92; refine (H1.out _).mono ?_; rintro e w3 ⟨rfl, rfl⟩))
      go_roundw
      case rel => exact ⟨j + 1, by omega, by omega, by go_num, HST.out, hb.setCell (p := ⟨w1.heap.size, j, none⟩) (Nat.le_refl _) _⟩
      case measure => simp [intOf]; omega
    · obtain rfl : j = m + 1 := by omega
      have hr := hrow
      rw [fil_full] at hr
      have HR := Lib.hid hr
      clear hr hrow
      have i1 : ¬ (m : Int) + 1 ≤ (m : Int) := by omega
      go_wp2_with fail
      go_ret2
      exact ⟨_, rfl, HR.out.mono hb1.size, hb1.trans (hb.mono hb1.size)⟩
theorem byFirstRunI_ret (n : Int) (w : World) : Calls Try.prog 48 #[.int .i64 n] w (IntsRet w (prB n) (prL rtF n)) := by
  have HC := Lib.hid (byReturnsI_ret n)
  go_enter Try.func48, Try.ntmps48
  go_wp2_with (go_at_call 44; refine (HC.out _).mono ?_; rintro e w2 ⟨v, rfl, hr, hb2⟩)
  go_ret2
  exact ⟨_, rfl, hr, hb2⟩
set_option maxRecDepth 100000 in
set_option maxHeartbeats 800000 in
theorem reReturns_any (m : Nat) (hm : m ≤ 15) (w : World) : Calls Try.prog 91 #[.int .i64 (m : Int)] w (IntsNew w (fr (rtF m) (m + 1))) := by
  obtain ⟨i0, hi0, hz0, hz1, hz2⟩ := info_parts intInfo
  by_cases hz : m = 0
  · subst hz
    go_enter Try.func91, Try.ntmps91
    go_wp2_with (first | (refine wpList_make_full _ rfl (.tmp 6) (.tmp 6) 44 rfl w.heap.size 3 i0 (.int .i64 0) 1 Try.underlying44 hi0 hz0 hz1 .i64 .i64 _ _ (0 + 1) rfl rfl (by omega) (by omega) (by rw [hz2]; omega) (by unfold maxLen; omega) (Nat.le_refl _) ?_; intro w2 hown1 hgrow1; have hrow1 : IRow w2 w.heap.size (.slice (some ⟨w.heap.size, 0, none⟩) (0 + 1) (0 + 1)) [0] := IRow.of_own hown1 rfl (by rw [madeOne _ rfl]; simp); have hb2 : Below w.heap.size w w2 := (Below.refl _ _).grown hgrow1 (Nat.le_refl _) (by simp); have hc := hrow1.cell (j := 0) (by decide); have hf := hrow1.free 0))
    have HST : Hid (IRow (w2.setCell ⟨w.heap.size, 0, none⟩ (.int .i64 1)) w.heap.size (.slice (some ⟨w.heap.size, 0, none⟩) (0 + 1) (0 + 1)) [1]) := Lib.hid (hrow1.set 0 1).1
    have HB := Lib.hid (hb2.setCell (p := ⟨w.heap.size, 0, none⟩) (Nat.le_refl _) (.int .i64 1))
    clear hown1 hgrow1 hrow1 hb2 hc hf
    refine wp_loop_rounds 1 ?_; rw [rounds_succ]
    go_wp2_with fail
    go_ret
    exact ⟨_, rfl, HST.out, HB.out⟩
  have q0 : ((m : Int) == 0) = false := beq_eq_false_iff_ne.2 (by omega)
  go_enter Try.func91, Try.ntmps91
  go_wp2_with (refine wpList_make_full _ rfl (.tmp 6) (.tmp 6) 44 rfl w.heap.size 3 i0 (.int .i64 0) 1 Try.underlying44 hi0 hz0 hz1 .i64 .i64 _ _ (m + 1) rfl rfl (by omega) (by omega) (by rw [hz2]; omega) (by unfold maxLen; omega) (Nat.le_refl _) ?_; intro w2 hown1 hgrow1)
  have hrow1 : IRow w2 w.heap.size (.slice (some ⟨w.heap.size, 0, none⟩) (m + 1) (m + 1)) (fil (rtF m) (m + 1) 0) :=
    IRow.of_own hown1 (by simp [fil_length]) (by rw [fil_zero, madeOne _ rfl]; simp)
  have hb2 : Below w.heap.size w w2 := (Below.refl _ _).grown hgrow1 (Nat.le_refl _) (by simp)
  clear hown1 hgrow1
  go_loopw [4] (fun i wr => ∃ j : Nat, 1 ≤ j ∧ j ≤ m + 1 ∧ i = .int .i64 (j : Int) ∧ IRow wr w.heap.size (.slice (some ⟨w.heap.size, 0, none⟩) (m + 1) (m + 1)) (fil (rtF m) (m + 1) j) ∧ Below w.heap.size w wr) (fun i _ => m + 1 - (intOf i).toNat)
  case atStart => exact ⟨1, Nat.le_refl _, by omega, rfl, by rw [← fil_one _ _ (rt_zero (by omega))]; exact hrow1, hb2⟩
  case round =>
    obtain ⟨j, hj0, hj, rfl, hrow, hb⟩ := hrel
    by_cases hlt : j < m + 1
    · have hsz := hb.size
      have hgl := (hrow.blk _ rfl).2
      have H1 : Hid (∀ w, Calls Try.prog 86 #[.int .i64 (2 * (m : Int) - (j : Int)), .int .i64 (m : Int)] w (Ret w (.int .i64 ((chs (2 * m - j) m : Nat) : Int)))) := Lib.hid fun w => by
        have := choose_ret ((2 * m - j : Nat) : Int) (m : Int) w (by omega)
        rwa [chZ_nat, show ((2 * m - j : Nat) : Int) = 2 * (m : Int) - (j : Int) by omega] at this
      have HS : Hid (rtF m j = ((chs (2 * m - j) m : Nat) : Int) * (j : Int) / (2 * (m : Int) - (j : Int))) := Lib.hid (by
        unfold rtF
        rw [rt_form hj0 (by omega), Int.natCast_ediv, Int.natCast_mul, show ((2 * m - j : Nat) : Int) = 2 * (m : Int) - (j : Int) by omega])
      have m1 := mul_bds (chs_30 (n := 2 * m - j) (k := m) (by omega)) (show j ≤ 15 by omega)
      have m3 : (0 : Int) < 2 * (m : Int) - (j : Int) := by omega
      have m2 := quo_bd m1.1 m1.2 m3
      generalize chs (2 * m - j) m = o1 at *
      have i1 : (j : Int) < (m : Int) + 1 := by omega
      have i1' : (j : Int) ≤ (m : Int) := by omega
      have i2 : 0 ≤ (j : Int) := by omega
      have tok1 : True := trivial
      have hrr := hrow
      have hacc := hb
      clear hrow hb hrow1 hb2
      go_wp2_with (first
        | (go_at_call 86; refine (H1.out _).mono ?_; rintro e w4 ⟨rfl, hb4⟩; replace hrr := hrr.below hb4; replace hacc := hacc.trans (hb4.mono hsz); have hf3 := hrr.free j; have hc3 := hrr.cell (j := j) (by rw [fil_length]; omega)))
      have hst := (hrr.set j (rtF m j)).1
      rw [fil_set] at hst
      rw [HS.out] at hst
      have HST := Lib.hid hst
      have HACC := Lib.hid (hacc.setCell (p := ⟨w.heap.size, j, none⟩) (Nat.le_refl _) (.int .i64 (((o1 : Nat) : Int) * (j : Int) / (2 * (m : Int) - (j : Int)))))
      clear hst hacc hrr hf3 hc3
      go_roundw
      case rel => exact ⟨j + 1, by omega, by omega, by go_num, HST.out, HACC.out⟩
      case measure => simp [intOf]; omega
    · obtain rfl : j = m + 1 := by omega
      have hr := hrow
      rw [fil_full] at hr
      have HR := Lib.hid hr
      clear hr hrow
      have i1 : ¬ (m : Int) + 1 ≤ (m : Int) := by omega
      go_wp2_with fail
      go_ret
      exact ⟨_, rfl, HR.out, hb⟩
theorem specByReturns_ret (n : Int) (w : World) : Calls Try.prog 43 #[.int .i64 n] w (IntsRet w (prB n) (prL rtF n)) := by
  have HG := Lib.hid (reGood_any n)
  rcases Bool.eq_false_or_eq_true (prB n) with h | h
  case inr =>
    rw [prL_no _ h, h]
    rw [h] at HG
    go_enter Try.func43, Try.ntmps43
    go_wp2_with (go_at_call 85; refine (HG.out _).mono ?_; rintro e w1 ⟨rfl, rfl⟩)
    go_ret2
    exact ⟨_, rfl, IRow.nil _ _, Below.refl _ _⟩
  obtain ⟨m, rfl, hm⟩ := prB_of h
  have HC := Lib.hid (reReturns_any m hm)
  rw [prL_yes _ h, h]
  rw [h] at HG
  go_enter Try.func43, Try.ntmps43
  go_wp2_with (first | (go_at_call 85; refine (HG.out _).mono ?_; rintro e w1 ⟨rfl, rfl⟩) | (go_at_call 91; refine (HC.out _).mono ?_; rintro e w2 ⟨v, rfl, hr, hb2⟩))
  go_ret2
  exact ⟨_, rfl, hr, hb2⟩
set_option maxRecDepth 100000 in
set_option maxHeartbeats 800000 in
theorem specByFirstRun_ret (n : Int) (w : World) : Calls Try.prog 47 #[.int .i64 n] w (IntsRet w (prB n) (prL rtF n)) := by
  have HG := Lib.hid (reGood_any n)
  rcases Bool.eq_false_or_eq_true (prB n) with h | h
  case inr =>
    rw [prL_no _ h, h]
    rw [h] at HG
    go_enter Try.func47, Try.ntmps47
    go_wp2_with (go_at_call 85; refine (HG.out _).mono ?_; rintro e w1 ⟨rfl, rfl⟩)
    go_ret2
    exact ⟨_, rfl, IRow.nil _ _, Below.refl _ _⟩
  obtain ⟨m, rfl, hm⟩ := prB_of h
  rw [prL_yes _ h, h]
  rw [h] at HG
  clear h
  obtain ⟨i0, hi0, hz0, hz1, hz2⟩ := info_parts intInfo
  by_cases hz : m = 0
  · subst hz
    go_enter Try.func47, Try.ntmps47
    go_wp2_with (first | (go_at_call 85; refine (HG.out _).mono ?_; rintro e w1 ⟨rfl, rfl⟩) | (refine wpList_make_full _ rfl (.tmp 12) (.tmp 12) 44 rfl w.heap.size 3 i0 (.int .i64 0) 1 Try.underlying44 hi0 hz0 hz1 .i64 .i64 _ _ (0 + 1) rfl rfl (by omega) (by omega) (by rw [hz2]; omega) (by unfold maxLen; omega) (Nat.le_refl _) ?_; intro w2 hown1 hgrow1; have hrow1 : IRow w2 w.heap.size (.slice (some ⟨w.heap.size, 0, none⟩) (0 + 1) (0 + 1)) [0] := IRow.of_own hown1 rfl (by rw [madeOne _ rfl]; simp); have hb2 : Below w.heap.size w w2 := (Below.refl _ _).grown hgrow1 (Nat.le_refl _) (by simp); have hc := hrow1.cell (j := 0) (by decide); have hf := hrow1.free 0))
    have HST : Hid (IRow (w2.setCell ⟨w.heap.size, 0, none⟩ (.int .i64 1)) w.heap.size (.slice (some ⟨w.heap.size, 0, none⟩) (0 + 1) (0 + 1)) [1]) := Lib.hid (hrow1.set 0 1).1
    have HB := Lib.hid (hb2.setCell (p := ⟨w.heap.size, 0, none⟩) (Nat.le_refl _) (.int .i64 1))
    clear hown1 hgrow1 hrow1 hb2 hc hf
    refine wp_loop_rounds 1 ?_; rw [rounds_succ]
    go_wp2_with fail
    go_ret2
    exact ⟨_, rfl, HST.out, HB.out⟩
  have q0 : ((m : Int) == 0) = false := beq_eq_false_iff_ne.2 (by omega)
  go_enter Try.func47, Try.ntmps47
  go_wp2_with (first | (go_at_call 85; refine (HG.out _).mono ?_; rintro e w1 ⟨rfl, rfl⟩) | (refine wpList_make_full _ rfl (.tmp 12) (.tmp 12) 44 rfl w.heap.size 3 i0 (.int .i64 0) 1 Try.underlying44 hi0 hz0 hz1 .i64 .i64 _ _ (m + 1) rfl rfl (by omega) (by omega) (by rw [hz2]; omega) (by unfold maxLen; omega) (Nat.le_refl _) ?_; intro w2 hown1 hgrow1))
  have hrow1 : IRow w2 w.heap.size (.slice (some ⟨w.heap.size, 0, none⟩) (m + 1) (m + 1)) (fil (rtF m) (m + 1) 0) :=
    IRow.of_own hown1 (by simp [fil_length]) (by rw [fil_zero, madeOne _ rfl]; simp)
  have hb2 : Below w.heap.size w w2 := (Below.refl _ _).grown hgrow1 (Nat.le_refl _) (by simp)
  clear hown1 hgrow1
  go_loopw [5, 6, 7] (fun i a1 a2 wr => ∃ j : Nat, 1 ≤ j ∧ j ≤ m + 1 ∧ i = .int .i64 (j : Int) ∧ IRow wr w.heap.size (.slice (some ⟨w.heap.size, 0, none⟩) (m + 1) (m + 1)) (fil (rtF m) (m + 1) j) ∧ Below w.heap.size w wr) (fun i _ _ _ => m + 1 - (intOf i).toNat)
  case atStart => exact ⟨1, Nat.le_refl _, by omega, rfl, by rw [← fil_one _ _ (rt_zero (by omega))]; exact hrow1, hb2⟩
  case round =>
    obtain ⟨j, hj0, hj, rfl, hrow, hb⟩ := hrel
    by_cases hlt : j < m + 1
    · have hsz := hb.size
      have hgl := (hrow.blk _ rfl).2
      have H1 : Hid (∀ w, Calls Try.prog 86 #[.int .i64 (2 * (m : Int) - (j : Int) - 1), .int .i64 ((2 * (m : Int) - (j : Int) - 1 + (j : Int) - 1) / 2)] w (Ret w (.int .i64 ((chs (2 * m - j - 1) (m - 1) : Nat) : Int)))) := Lib.hid fun w => by
        have := choose_ret ((2 * m - j - 1 : Nat) : Int) ((m - 1 : Nat) : Int) w (by omega)
        rw [chZ_nat, show ((2 * m - j - 1 : Nat) : Int) = 2 * (m : Int) - (j : Int) - 1 by omega] at this
        rw [show (2 * (m : Int) - (j : Int) - 1 + (j : Int) - 1) / 2 = ((m - 1 : Nat) : Int) by omega]
        exact this
      have H2 : Hid (∀ w, Calls Try.prog 86 #[.int .i64 (2 * (m : Int) - (j : Int) - 1), .int .i64 ((2 * (m : Int) - (j : Int) - 1 + (j : Int) - 1) / 2 + 1)] w (Ret w (.int .i64 ((chs (2 * m - j - 1) m : Nat) : Int)))) := Lib.hid fun w => by
        have := choose_ret ((2 * m - j - 1 : Nat) : Int) (m : Int) w (by omega)
        rw [chZ_nat, show ((2 * m - j - 1 : Nat) : Int) = 2 * (m : Int) - (j : Int) - 1 by omega] at this
        rw [show (2 * (m : Int) - (j : Int) - 1 + (j : Int) - 1) / 2 + 1 = (m : Int) by omega]
        exact this
      have HS : Hid (rtF m j = ((chs (2 * m - j - 1) (m - 1) : Nat) : Int) - ((chs (2 * m - j - 1) m : Nat) : Int)) := Lib.hid (by
        unfold rtF
        rw [rt_form hj0 (by omega)]
        have := first_run hm hj0 (show j ≤ m by omega)
        omega)
      have m1 := chs_30 (n := 2 * m - j - 1) (k := m - 1) (by omega)
      have m2 := chs_30 (n := 2 * m - j - 1) (k := m) (by omega)
      have m3 : 0 ≤ 2 * (m : Int) - (j : Int) - 1 + (j : Int) - 1 := by omega
      generalize chs (2 * m - j - 1) m = o2 at *
      generalize chs (2 * m - j - 1) (m - 1) = o1 at *
      have i1 : (j : Int) < (m : Int) + 1 := by omega
      have i1' : (j : Int) ≤ (m : Int) := by omega
      have i2 : 0 ≤ (j : Int) := by omega
      have tok1 : True := trivial
      have hrr := hrow
      have hacc := hb
      clear hrow hb hrow1 hb2
      go_wp2_with (first
        | (have _t := tok1; go_at_call 86; clear _t tok1; refine (H1.out _).mono ?_; rintro e w3 ⟨rfl, hb3⟩; replace hrr := hrr.below hb3; replace hacc := hacc.trans (hb3.mono hsz); have hsz3 := hacc.size)
        | (go_at_call 86; refine (H2.out _).mono ?_; rintro e w4 ⟨rfl, hb4⟩; replace hrr := hrr.below hb4; replace hacc := hacc.trans (hb4.mono hsz3); have hf3 := hrr.free j; have hc3 := hrr.cell (j := j) (by rw [fil_length]; omega)))
      have hst := (hrr.set j (rtF m j)).1
      rw [fil_set] at hst
      rw [HS.out] at hst
      have HST := Lib.hid hst
      have HACC := Lib.hid (hacc.setCell (p := ⟨w.heap.size, j, none⟩) (Nat.le_refl _) (.int .i64 (((o1 : Nat) : Int) - ((o2 : Nat) : Int))))
      clear hst hacc hrr hf3 hc3
      go_roundw
      case rel => exact ⟨j + 1, by omega, by omega, by go_num, HST.out, HACC.out⟩
      case measure => simp [intOf]; omega
    · obtain rfl : j = m + 1 := by omega
      have hr := hrow
      rw [fil_full] at hr
      have HR := Lib.hid hr
      clear hr hrow
      have i1 : ¬ (m : Int) + 1 ≤ (m : Int) := by omega
      go_wp2_with fail
      go_ret2
      exact ⟨_, rfl, HR.out, hb⟩
end Go.Proofs.Ytnlmjeakdjmohaa
