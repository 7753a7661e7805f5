/- Pack 38 of what FnRecordsTold needs: ToI, CbhI. -/
import Derived.Test.YtachijliaedndaaKFnRecordsTold37
/- The program's countToEnd. -/
namespace Go.Proofs.Ytachijliaedndaa
open Go.RowKit
set_option linter.unusedVariables false
theorem toZ_cntV {n h : Int} (ho : (n + h) % 2 = 0) (n1 : 0 ≤ n) (n2 : n ≤ 40) : cntV ((n + h).tdiv 2) ((n - h).tdiv 2) = toZ n h := by
  obtain ⟨k, hk⟩ : ∃ k : Int, n + h = 2 * k := ⟨(n + h) / 2, by omega⟩
  have e2 : n - h = 2 * (n - k) := by omega
  have hh : h = 2 * k - n := by omega
  rw [hk, e2, Int.mul_tdiv_cancel_left _ (by omega), Int.mul_tdiv_cancel_left _ (by omega)]
  unfold toZ
  by_cases hb : h < -n ∨ n < h
  · rw [if_pos (.inr hb), cntV_no (by omega)]
  · rw [if_neg (by omega)]
    unfold cntV
    rw [cntOk_yes (by omega), if_pos rfl, hk, Int.mul_ediv_cancel_left _ (by omega), show k + (n - k) = n by omega]
set_option maxHeartbeats 400000 in
theorem countToEnd_ret (n h : Int) (w : World) (hn : 0 ≤ n ∧ n ≤ 40) (hh : -1000000 ≤ h ∧ h ≤ 1000000) : Calls Try.prog 196 #[.int .i64 n, .int .i64 h] w fun e w' => e = .returned (.int .i64 (toZ n h)) ∧ w = w' := by
  obtain ⟨n1, n2⟩ := hn
  obtain ⟨h1, h2⟩ := hh
  by_cases ho : (n + h) % 2 = 0
  · have t0 : (n + h).tmod 2 = 0 := Int.tmod_eq_zero_of_dvd (Int.dvd_of_emod_eq_zero ho)
    have HC : Hid (∀ w, Calls Try.prog 71 #[.int .i64 ((n + h).tdiv 2), .int .i64 ((n - h).tdiv 2)] w fun e w' => ∃ ok, e = .returned (.tuple #[.int .i64 (toZ n h), .bool ok]) ∧ w = w') := Lib.hid fun w => by
      have := count_ret ((n + h).tdiv 2) ((n - h).tdiv 2) w
      rw [toZ_cntV ho n1 n2] at this
      exact this.mono fun _ _ ⟨a, b⟩ => ⟨_, a, b⟩
    clear ho
    generalize toZ n h = z at *
    go_enter Try.func196, Try.ntmps196
    go_wp2_with (go_at_call 71; refine (HC.out _).mono ?_; rintro e w' ⟨ok, rfl, rfl⟩)
    go_ret
    exact ⟨rfl, rfl⟩
  · have e : toZ n h = 0 := by unfold toZ; rw [if_pos (.inl ho)]
    have t0 : ¬ (n + h).tmod 2 = 0 := fun q => ho (Int.emod_eq_zero_of_dvd (Int.dvd_of_tmod_eq_zero q))
    rw [e]
    clear e ho
    go_enter Try.func196, Try.ntmps196
    go_wp2
    go_ret
    exact ⟨rfl, rfl⟩
end Go.Proofs.Ytachijliaedndaa

/- The program's CountByHighest. -/
namespace Go.Proofs.Ytachijliaedndaa
open Go.RowKit
set_option linter.unusedVariables false
set_option maxRecDepth 100000 in
set_option maxHeartbeats 800000 in
theorem countByHighest_ret (n : Int) (w : World) : Calls Try.prog 70 #[.int .i64 n] w (IntsRet w (chOk n) (chV n)) := by
  by_cases n1 : 0 ≤ n
  case neg =>
    have e1 : chOk n = false := by unfold chOk inB; simp; omega
    have e2 : chV n = [] := by rw [chV, e1]; rfl
    rw [e1, e2]
    clear e1 e2
    go_enter Try.func70, Try.ntmps70
    go_wp2
    go_ret2
    exact ⟨_, rfl, IRow.nil _ _, Below.refl _ _⟩
  by_cases n2 : n ≤ 40
  case neg =>
    have e1 : chOk n = false := by unfold chOk inB; simp; omega
    have e2 : chV n = [] := by rw [chV, e1]; rfl
    rw [e1, e2]
    clear e1 e2
    go_enter Try.func70, Try.ntmps70
    go_wp2
    go_ret2
    exact ⟨_, rfl, IRow.nil _ _, Below.refl _ _⟩
  have e1 : chOk n = true := by unfold chOk inB; simp; omega
  have e2 : chV n = fr (byH n) (n + 1).toNat := by rw [chV, if_pos e1]
  obtain ⟨m, rfl⟩ : ∃ m : Nat, n = m := ⟨n.toNat, by omega⟩
  have hm : m ≤ 40 := by omega
  rw [e1, e2, show ((m : Int) + 1).toNat = m + 1 by omega]
  clear e1 e2
  obtain ⟨i0, hi0, hz0, hz1, hz2⟩ := info_parts intInfo
  go_enter Try.func70, Try.ntmps70
  go_wp2_with (refine wpList_make_full _ rfl (.tmp 13) (.tmp 13) 30 rfl w.heap.size 3 i0 (.int .i64 0) 1 Try.underlying30 hi0 hz0 hz1 .i64 .i64 _ _ (m + 1) rfl rfl (by omega) (by omega) (by rw [hz2]; omega) (by unfold maxLen; omega) (Nat.le_refl _) ?_; intro w1 hown1 hgrow1)
  have hrow1 : IRow w1 w.heap.size (.slice (some ⟨w.heap.size, 0, none⟩) (m + 1) (m + 1)) (fil (byH m) (m + 1) 0) :=
    IRow.of_own hown1 (by simp [fil_length]) (by rw [fil_zero, madeOne _ rfl]; simp)
  have hb1 : Below w.heap.size w w1 := (Below.refl _ _).grown hgrow1 (Nat.le_refl _) (by simp)
  clear hown1 hgrow1
  go_loopw [5, 17] (fun q i wr => ∃ j : Nat, j ≤ m + 1 ∧ i = .int .i64 (j : Int) ∧ IRow wr w.heap.size (.slice (some ⟨w.heap.size, 0, none⟩) (m + 1) (m + 1)) (fil (byH m) (m + 1) j) ∧ Below w.heap.size w wr) (fun _ i _ => m + 1 - (intOf i).toNat)
  case atStart => exact ⟨0, Nat.zero_le _, rfl, hrow1, hb1⟩
  case round =>
    obtain ⟨j, hj, rfl, hrow, hb⟩ := hrel
    by_cases hlt : j < m + 1
    · have hsz := hb.size
      have b1 := toZ_bd m j (by omega)
      have b2 := toZ_bd m ((j : Int) + 1) (by omega)
      have H1 : Hid (∀ w, Calls Try.prog 196 #[.int .i64 (m : Int), .int .i64 (j : Int)] w fun e w' => e = .returned (.int .i64 (toZ m j)) ∧ w = w') := Lib.hid fun w => countToEnd_ret _ _ w (by omega) (by omega)
      have H2 : Hid (∀ w, Calls Try.prog 196 #[.int .i64 (m : Int), .int .i64 ((j : Int) + 1)] w fun e w' => e = .returned (.int .i64 (toZ m ((j : Int) + 1))) ∧ w = w') := Lib.hid fun w => countToEnd_ret _ _ w (by omega) (by omega)
      have hst := (hrow.set j (byH m j)).1
      rw [fil_set] at hst
      have HS : byH m j = toZ m j + toZ m ((j : Int) + 1) := rfl
      rw [HS] at hst
      have HST := Lib.hid hst
      have i1 : (j : Int) < (m : Int) + 1 := by omega
      have hf3 := hrow.free j
      have hc3 := hrow.cell (j := j) (by rw [fil_length]; omega)
      have tok1 : True := trivial
      clear hrow hrow1 hb1 hst HS
      generalize toZ m j = z1 at *
      generalize toZ m ((j : Int) + 1) = z2 at *
      go_wp2_with (first
        | (have _t := tok1; go_at_call 196; clear _t tok1; refine (H1.out _).mono ?_; rintro e w2 ⟨rfl, rfl⟩)
        | (go_at_call 196; refine (H2.out _).mono ?_; rintro e w3 ⟨rfl, rfl⟩))
      go_roundw
      case rel => exact ⟨j + 1, by omega, by go_num, HST.out, hb.setCell (p := ⟨w.heap.size, j, none⟩) (Nat.le_refl _) _⟩
      case measure => simp [intOf]; omega
    · obtain rfl : j = m + 1 := by omega
      have hr := hrow
      rw [fil_full] at hr
      have HR := Lib.hid hr
      clear hr hrow
      go_wp2_with fail
      go_ret2
      exact ⟨_, rfl, HR.out, hb⟩
end Go.Proofs.Ytachijliaedndaa
