/- CountByHeight, SumOfHighest: the program. -/
import Derived.Test.YtnlmjeakdjmohaaHgS
import Derived.Test.YtnlmjeakdjmohaaPrI
import Derived.Test.YtnlmjeakdjmohaaBtwI
namespace Go.Proofs.Ytnlmjeakdjmohaa
open Go.RowKit
set_option linter.unusedVariables false
theorem cb_hg {m j : Nat} (hm : m ≤ 15) (hj : j ≤ 15) : cbOk m m 0 j = true ∧ cbV m m 0 j = hgA m j := by
  have h1 : cbOk m m 0 j = true := by
    unfold cbOk
    rw [cntOk_yes (by omega)]
    unfold walB inB
    simp
    omega
  refine ⟨h1, ?_⟩
  unfold cbV
  rw [if_pos h1]
  have h2 := btZ_cw (n := 2 * m) (s := 0) (e := 0) (lo := 0) (hi := (j : Int)) (by omega)
  simp only [Int.sub_zero] at h2
  rw [show (m : Int) + (m : Int) = ((2 * m : Nat) : Int) by omega, show (m : Int) - (m : Int) = 0 by omega]
  exact h2
set_option maxRecDepth 100000 in
set_option maxHeartbeats 800000 in
theorem byHeightI_ret (n : Int) (w : World) : Calls Try.prog 42 #[.int .i64 n] w (IntsRet w (prB n) (prL hgF n)) := by
  have HP := Lib.hid (isPairs_any n)
  rcases Bool.eq_false_or_eq_true (prB n) with h | h
  case inr =>
    rw [prL_no _ h, h]
    rw [h] at HP
    go_enter Try.func42, Try.ntmps42
    go_wp2_with (go_at_call 87; refine (HP.out _).mono ?_; rintro e w1 ⟨rfl, hb1⟩)
    go_ret2
    exact ⟨_, rfl, IRow.nil _ _, hb1⟩
  obtain ⟨m, rfl, hm⟩ := prB_of h
  rw [prL_yes _ h, h]
  rw [h] at HP
  clear h
  obtain ⟨i0, hi0, hz0, hz1, hz2⟩ := info_parts intInfo
  go_enter Try.func42, Try.ntmps42
  go_wp2_with (first | (go_at_call 87; refine (HP.out _).mono ?_; rintro e w1 ⟨rfl, hb1⟩) | (refine wpList_make_full _ rfl (.tmp 13) (.tmp 13) 44 rfl w1.heap.size 3 i0 (.int .i64 0) 1 Try.underlying44 hi0 hz0 hz1 .i64 .i64 _ _ (m + 1) rfl rfl (by omega) (by omega) (by rw [hz2]; omega) (by unfold maxLen; omega) (Nat.le_refl _) ?_; intro w2 hown1 hgrow1))
  have hrow1 : IRow w2 w1.heap.size (.slice (some ⟨w1.heap.size, 0, none⟩) (m + 1) (m + 1)) (fil (hgF m) (m + 1) 0) :=
    IRow.of_own hown1 (by simp [fil_length]) (by rw [fil_zero, madeOne _ rfl]; simp)
  have hb2 : Below w1.heap.size w1 w2 := (Below.refl _ _).grown hgrow1 (Nat.le_refl _) (by simp)
  clear hown1 hgrow1
  go_loopw [5, 17] (fun l i wr => ∃ j : Nat, j ≤ m + 1 ∧ i = .int .i64 (j : Int) ∧ l = .int .i64 (hgL m j) ∧ IRow wr w1.heap.size (.slice (some ⟨w1.heap.size, 0, none⟩) (m + 1) (m + 1)) (fil (hgF m) (m + 1) j) ∧ Below w1.heap.size w1 wr) (fun _ i _ => m + 1 - (intOf i).toNat)
  case atStart => exact ⟨0, by omega, rfl, rfl, hrow1, hb2⟩
  case round =>
    obtain ⟨j, hj, rfl, rfl, hrow, hb⟩ := hrel
    by_cases hlt : j < m + 1
    · have hsz := hb.size
      have hgl := (hrow.blk _ rfl).2
      have i1 : (j : Int) < (m : Int) + 1 := by omega
      have i2 : 0 ≤ (j : Int) := by omega
      have HS : Hid (hgF m j = hgA m j - hgL m j) := Lib.hid rfl
      have HL : Hid (hgL m (j + 1) = hgA m j) := Lib.hid (hgL_succ m j)
      have m1 := hgA_bd hm j
      have m2 := hgL_bd hm j
      have H1 : Hid (∀ w, Calls Try.prog 90 #[.int .i64 (m : Int), .int .i64 (m : Int), .int .i64 0, .int .i64 (j : Int)] w (Ret w (.tuple #[.int .i64 (hgA m j), .bool true]))) := Lib.hid fun w => by
        have h1 := countBetweenI_ret (m : Int) (m : Int) 0 (j : Int) w
        rwa [(cb_hg hm (show j ≤ 15 by omega)).1, (cb_hg hm (show j ≤ 15 by omega)).2] at h1
      generalize hgL m j = l0 at *
      generalize hgA m j = a0 at *
      have hrr := hrow
      have hacc := hb
      clear hrow hb hrow1 hb2
      go_wp2_with (go_at_call 90; refine (H1.out _).mono ?_; rintro e w4 ⟨rfl, hb4⟩; replace hrr := hrr.below hb4; replace hacc := hacc.trans (hb4.mono hsz); have hf3 := hrr.free j; have hc3 := hrr.cell (j := j) (by rw [fil_length]; omega))
      have hst := (hrr.set j (hgF m j)).1
      rw [fil_set] at hst
      rw [HS.out] at hst
      have HST := Lib.hid hst
      have HACC := Lib.hid (hacc.setCell (p := ⟨w1.heap.size, j, none⟩) (Nat.le_refl _) (.int .i64 (a0 - l0)))
      clear hst hacc hrr hf3 hc3
      go_roundw
      case rel => exact ⟨j + 1, by omega, by go_num, by rw [HL.out], HST.out, HACC.out⟩
      case measure => simp [intOf]; omega
    · obtain rfl : j = m + 1 := by omega
      have hr := hrow
      rw [fil_full] at hr
      have HR := Lib.hid hr
      clear hr hrow
      have i1 : ¬ (m : Int) + 1 < (m : Int) + 1 := by omega
      go_wp2_with fail
      go_ret2
      exact ⟨_, rfl, HR.out.mono hb1.size, hb1.trans (hb.mono hb1.size)⟩
set_option maxHeartbeats 400000 in
theorem sumHighI_ret (n : Int) (w : World) : Calls Try.prog 54 #[.int .i64 n] w (Ret w (.tuple #[.int .i64 (prZ hiF n), .bool (prB n)])) := by
  have HC := Lib.hid (byHeightI_ret n)
  rcases Bool.eq_false_or_eq_true (prB n) with h | h
  case inr =>
    rw [prZ_no _ h, h]
    rw [h, prL_no _ h] at HC
    go_enter Try.func54, Try.ntmps54
    go_wp2_with (go_at_call 42; refine (HC.out _).mono ?_; rintro e w2 ⟨v, rfl, hr, hb2⟩; obtain ⟨A, c, rfl⟩ := hr.shape)
    refine wp_loop_rounds 1 ?_; rw [rounds_succ]
    go_wp2
    go_ret2
    exact ⟨rfl, hb2⟩
  obtain ⟨m, rfl, hm⟩ := prB_of h
  rw [prZ_yes _ h, h]
  rw [h, prL_yes _ h] at HC
  clear h
  go_enter Try.func54, Try.ntmps54
  go_wp2_with (go_at_call 42; refine (HC.out _).mono ?_; rintro e w2 ⟨v, rfl, hr, hb2⟩; obtain ⟨g, c, rfl, hgB, hgl⟩ := hr.form' (fr_length _ _) (by omega))
  go_loop [6, 16] (fun u i => ∃ k : Nat, k ≤ m + 1 ∧ i = .int .i64 (k : Int) ∧ u = .int .i64 (hiS m k)) (fun _ i => m + 1 - (intOf i).toNat)
  case atStart => exact ⟨0, Nat.zero_le _, rfl, rfl⟩
  case round =>
    obtain ⟨k, hk, rfl, rfl⟩ := hrel
    by_cases hlt : k < m + 1
    · have hc := hr.cell (j := k) (by rw [fr_length]; omega)
      rw [fr_get _ _ _ hlt] at hc
      have h1 := hiS_bd hm k (by omega)
      have h2 := hi_mul hm (show k ≤ 15 by omega)
      have HE : Hid (hiS m (k + 1) = hiS m k + (k : Int) * hgF m k) := Lib.hid rfl
      have i1 : (k : Int) < (m : Int) + 1 := by omega
      generalize hiS m k = x at *
      generalize hgF m k = y at *
      go_wp2
      go_round
      case rel => exact ⟨k + 1, by omega, by go_num, by rw [HE.out]⟩
      case measure => simp [intOf]; omega
    · obtain rfl : k = m + 1 := by omega
      have HE : Hid (hiF m = hiS m (m + 1)) := Lib.hid rfl
      clear hr
      generalize hiS m (m + 1) = x at *
      go_wp2
      go_ret2
      exact ⟨ret_ib HE.out.symm rfl, hb2⟩
end Go.Proofs.Ytnlmjeakdjmohaa
