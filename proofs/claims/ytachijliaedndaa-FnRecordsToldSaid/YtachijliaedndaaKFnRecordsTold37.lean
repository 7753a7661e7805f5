/- Pack 37 of what FnRecordsTold needs: PkB, AbB. -/
import Derived.Test.YtachijliaedndaaKFnRecordsTold36
/- CountByPeaks: both sides. -/
namespace Go.Proofs.Ytachijliaedndaa
open Go.RowKit
set_option linter.unusedVariables false
theorem chs_15 {n k : Nat} (h : n ≤ 15) : chs n k ≤ 32768 := by
  have h1 := chs_le n k
  have h2 : 2 ^ n ≤ 2 ^ 15 := Nat.pow_le_pow_right (by omega) h
  omega
theorem chs_30 {n k : Nat} (h : n ≤ 30) : chs n k ≤ 1073741824 := by
  have h1 := chs_le n k
  have h2 : 2 ^ n ≤ 2 ^ 30 := Nat.pow_le_pow_right (by omega) h
  omega
theorem quo_bd {a b d : Int} (ha : 0 ≤ a) (hb : a ≤ b) (hd : 0 < d) : 0 ≤ a / d ∧ a / d ≤ b := by
  have h1 := Int.ediv_nonneg ha (show 0 ≤ d by omega)
  have h2 := Int.ediv_le_self d ha
  omega
theorem mul_bds {a b : Nat} {c d : Nat} (h1 : a ≤ c) (h2 : b ≤ d) : 0 ≤ (a : Int) * (b : Int) ∧ (a : Int) * (b : Int) ≤ ((c * d : Nat) : Int) := by
  rw [← Int.natCast_mul]
  have := Nat.mul_le_mul h1 h2
  omega
def pkO (m j : Nat) : Nat := if j = 0 then 0 else chs m (j - 1)
theorem pk_eq {m j : Nat} (hm : 0 < m) : pkF m j = ((chs m j : Nat) : Int) * ((pkO m j : Nat) : Int) / (m : Int) := by
  unfold pkF pkO
  rw [if_neg (by omega)]
  by_cases h : j = 0
  · rw [if_pos h, if_pos h]; simp
  · rw [if_neg h, if_neg h, Int.natCast_ediv, Int.natCast_mul]
theorem pkO_le {m j : Nat} (hm : m ≤ 15) : pkO m j ≤ 32768 := by
  unfold pkO
  split
  · omega
  · exact chs_15 hm
theorem pk_zero {m : Nat} (hm : 0 < m) : pkF m 0 = 0 := by unfold pkF; rw [if_neg (by omega), if_pos rfl]
theorem peaks_lit (W : World) (x : Int) : IRow (W.alloc (.cells #[.int .i64 x] 3)) W.heap.size (.slice (some ⟨W.heap.size, 0, none⟩) 1 1) [x] :=
  IRow.of_own (World.ownsRow_lit (base := W.heap.size) W #[.int .i64 x] 1 (Nat.le_refl _) (by simp [maxLen]) rfl) rfl rfl
end Go.Proofs.Ytachijliaedndaa

/- CountByAbove, CountByLastReturn: both sides. -/
namespace Go.Proofs.Ytachijliaedndaa
open Go.RowKit
set_option linter.unusedVariables false
set_option maxRecDepth 100000 in
set_option maxHeartbeats 800000 in
theorem byAboveI_ret (n : Int) (w : World) : Calls Try.prog 64 #[.int .i64 n] w (IntsRet w (prB n) (prL abF n)) := by
  have HP := Lib.hid (isPairs_any n)
  rcases Bool.eq_false_or_eq_true (prB n) with h | h
  case inr =>
    rw [prL_no _ h, h]
    rw [h] at HP
    go_enter Try.func64, Try.ntmps64
    go_wp2_with (go_at_call 192; refine (HP.out _).mono ?_; rintro e w1 ⟨rfl, hb1⟩)
    go_ret2
    exact ⟨_, rfl, IRow.nil _ _, hb1⟩
  obtain ⟨m, rfl, hm⟩ := prB_of h
  rw [prL_yes _ h, h]
  rw [h] at HP
  clear h
  obtain ⟨i0, hi0, hz0, hz1, hz2⟩ := info_parts intInfo
  go_enter Try.func64, Try.ntmps64
  go_wp2_with (first | (go_at_call 192; refine (HP.out _).mono ?_; rintro e w1 ⟨rfl, hb1⟩) | (refine wpList_make_full _ rfl (.tmp 14) (.tmp 14) 30 rfl w1.heap.size 3 i0 (.int .i64 0) 1 Try.underlying30 hi0 hz0 hz1 .i64 .i64 _ _ (m + 1) rfl rfl (by omega) (by omega) (by rw [hz2]; omega) (by unfold maxLen; omega) (Nat.le_refl _) ?_; intro w2 hown1 hgrow1))
  have hrow1 : IRow w2 w1.heap.size (.slice (some ⟨w1.heap.size, 0, none⟩) (m + 1) (m + 1)) (fil (abF m) (m + 1) 0) :=
    IRow.of_own hown1 (by simp [fil_length]) (by rw [fil_zero, madeOne _ rfl]; simp)
  have hb2 : Below w1.heap.size w1 w2 := (Below.refl _ _).grown hgrow1 (Nat.le_refl _) (by simp)
  clear hown1 hgrow1
  go_loopw [5, 6, 7, 8, 9, 18] (fun a0 a1 a2 a3 a4 i wr => ∃ j : Nat, 0 ≤ j ∧ j ≤ m + 1 ∧ i = .int .i64 (j : Int) ∧ IRow wr w1.heap.size (.slice (some ⟨w1.heap.size, 0, none⟩) (m + 1) (m + 1)) (fil (abF m) (m + 1) j) ∧ Below w1.heap.size w1 wr) (fun _ _ _ _ _ i _ => m + 1 - (intOf i).toNat)
  case atStart => exact ⟨0, Nat.le_refl _, by omega, rfl, hrow1, hb2⟩
  case round =>
    obtain ⟨j, hj0, hj, rfl, hrow, hb⟩ := hrel
    by_cases hlt : j < m + 1
    · have hsz := hb.size
      have hgl := (hrow.blk _ rfl).2
      have H1 : Hid (∀ w, Calls Try.prog 71 #[.int .i64 (j : Int), .int .i64 (j : Int)] w fun e w' => e = .returned (.tuple #[.int .i64 ((chs (2 * j) j : Nat) : Int), .bool true]) ∧ w = w') := Lib.hid fun w => by
        have := count_yes j j w (by omega)
        rwa [show j + j = 2 * j by omega] at this
      have H2 : Hid (∀ w, Calls Try.prog 71 #[.int .i64 ((m : Int) - (j : Int)), .int .i64 ((m : Int) - (j : Int))] w fun e w' => e = .returned (.tuple #[.int .i64 ((chs (2 * (m - j)) (m - j) : Nat) : Int), .bool true]) ∧ w = w') := Lib.hid fun w => by
        have := count_yes (m - j) (m - j) w (by omega)
        rwa [show m - j + (m - j) = 2 * (m - j) by omega, show ((m - j : Nat) : Int) = (m : Int) - (j : Int) by omega] at this
      have HS : Hid (abF m j = ((chs (2 * j) j : Nat) : Int) * ((chs (2 * (m - j)) (m - j) : Nat) : Int)) := Lib.hid (by unfold abF; rw [Int.natCast_mul])
      have m1 := mul_bds (chs_30 (n := 2 * j) (k := j) (by omega)) (chs_30 (n := 2 * (m - j)) (k := m - j) (by omega))
      generalize chs (2 * (m - j)) (m - j) = o2 at *
      generalize chs (2 * j) j = o1 at *
      have i1 : (j : Int) < (m : Int) + 1 := by omega
      have i1' : (j : Int) ≤ (m : Int) := by omega
      have i2 : 0 ≤ (j : Int) := by omega
      have tok1 : True := trivial
      have hst := (hrow.set j (abF m j)).1
      rw [fil_set] at hst
      rw [HS.out] at hst
      have HST := Lib.hid hst
      have hf3 := hrow.free j
      have hc3 := hrow.cell (j := j) (by rw [fil_length]; omega)
      clear hrow hrow1 hb2 hst HS
      go_wp2_with (first
        | (have _t := tok1; go_at_call 71; clear _t tok1; refine (H1.out _).mono ?_; rintro e w3 ⟨rfl, rfl⟩)
        | (go_at_call 71; refine (H2.out _).mono ?_; rintro e w4 ⟨rfl, rfl⟩))
      go_roundw
      case rel => exact ⟨j + 1, by omega, by omega, by go_num, HST.out, hb.setCell (p := ⟨w1.heap.size, j, none⟩) (Nat.le_refl _) _⟩
      case measure => simp [intOf]; omega
    · obtain rfl : j = m + 1 := by omega
      have hr := hrow
      rw [fil_full] at hr
      have HR := Lib.hid hr
      clear hr hrow
      have i1 : ¬ (m : Int) + 1 ≤ (m : Int) := by omega
      go_wp2_with fail
      go_ret2
      exact ⟨_, rfl, HR.out.mono hb1.size, hb1.trans (hb.mono hb1.size)⟩
set_option maxRecDepth 100000 in
set_option maxHeartbeats 800000 in
theorem reSine_any (m : Nat) (hm : m ≤ 15) (w : World) : Calls Try.prog 194 #[.int .i64 (m : Int)] w (IntsNew w (fr (abF m) (m + 1))) := by
  obtain ⟨i0, hi0, hz0, hz1, hz2⟩ := info_parts intInfo
  go_enter Try.func194, Try.ntmps194
  go_wp2_with (refine wpList_make_full _ rfl (.tmp 6) (.tmp 6) 30 rfl w.heap.size 3 i0 (.int .i64 0) 1 Try.underlying30 hi0 hz0 hz1 .i64 .i64 _ _ (m + 1) rfl rfl (by omega) (by omega) (by rw [hz2]; omega) (by unfold maxLen; omega) (Nat.le_refl _) ?_; intro w2 hown1 hgrow1)
  have hrow1 : IRow w2 w.heap.size (.slice (some ⟨w.heap.size, 0, none⟩) (m + 1) (m + 1)) (fil (abF m) (m + 1) 0) :=
    IRow.of_own hown1 (by simp [fil_length]) (by rw [fil_zero, madeOne _ rfl]; simp)
  have hb2 : Below w.heap.size w w2 := (Below.refl _ _).grown hgrow1 (Nat.le_refl _) (by simp)
  clear hown1 hgrow1
  go_loopw [4, 10] (fun a0 i wr => ∃ j : Nat, 0 ≤ j ∧ j ≤ m + 1 ∧ i = .int .i64 (j : Int) ∧ IRow wr w.heap.size (.slice (some ⟨w.heap.size, 0, none⟩) (m + 1) (m + 1)) (fil (abF m) (m + 1) j) ∧ Below w.heap.size w wr) (fun _ i _ => m + 1 - (intOf i).toNat)
  case atStart => exact ⟨0, Nat.le_refl _, by omega, rfl, hrow1, hb2⟩
  case round =>
    obtain ⟨j, hj0, hj, rfl, hrow, hb⟩ := hrel
    by_cases hlt : j < m + 1
    · have hsz := hb.size
      have hgl := (hrow.blk _ rfl).2
      have H1 : Hid (∀ w, Calls Try.prog 195 #[.int .i64 (2 * (j : Int)), .int .i64 (j : Int)] w (Ret w (.int .i64 ((chs (2 * j) j : Nat) : Int)))) := Lib.hid fun w => by
        have := choose_ret ((2 * j : Nat) : Int) (j : Int) w (by omega)
        rwa [chZ_nat, show ((2 * j : Nat) : Int) = 2 * (j : Int) by omega] at this
      have H2 : Hid (∀ w, Calls Try.prog 195 #[.int .i64 (2 * (m : Int) - 2 * (j : Int)), .int .i64 ((m : Int) - (j : Int))] w (Ret w (.int .i64 ((chs (2 * (m - j)) (m - j) : Nat) : Int)))) := Lib.hid fun w => by
        have := choose_ret ((2 * (m - j) : Nat) : Int) ((m - j : Nat) : Int) w (by omega)
        rwa [chZ_nat, show ((2 * (m - j) : Nat) : Int) = 2 * (m : Int) - 2 * (j : Int) by omega, show ((m - j : Nat) : Int) = (m : Int) - (j : Int) by omega] at this
      have HS : Hid (abF m j = ((chs (2 * j) j : Nat) : Int) * ((chs (2 * (m - j)) (m - j) : Nat) : Int)) := Lib.hid (by unfold abF; rw [Int.natCast_mul])
      have m1 := mul_bds (chs_30 (n := 2 * j) (k := j) (by omega)) (chs_30 (n := 2 * (m - j)) (k := m - j) (by omega))
      generalize chs (2 * (m - j)) (m - j) = o2 at *
      generalize chs (2 * j) j = o1 at *
      have i1 : (j : Int) < (m : Int) + 1 := by omega
      have i1' : (j : Int) ≤ (m : Int) := by omega
      have i2 : 0 ≤ (j : Int) := by omega
      have tok1 : True := trivial
      have hrr := hrow
      have hacc := hb
      clear hrow hb hrow1 hb2
      go_wp2_with (first
        | (have _t := tok1; go_at_call 195; clear _t tok1; refine (H1.out _).mono ?_; rintro e w3 ⟨rfl, hb3⟩; replace hrr := hrr.below hb3; replace hacc := hacc.trans (hb3.mono hsz); have hsz3 := hacc.size)
        | (go_at_call 195; refine (H2.out _).mono ?_; rintro e w4 ⟨rfl, hb4⟩; replace hrr := hrr.below hb4; replace hacc := hacc.trans (hb4.mono hsz3); have hf3 := hrr.free j; have hc3 := hrr.cell (j := j) (by rw [fil_length]; omega)))
      have hst := (hrr.set j (abF m j)).1
      rw [fil_set] at hst
      rw [HS.out] at hst
      have HST := Lib.hid hst
      have HACC := Lib.hid (hacc.setCell (p := ⟨w.heap.size, j, none⟩) (Nat.le_refl _) (.int .i64 (((o1 : Nat) : Int) * ((o2 : Nat) : Int))))
      clear hst hacc hrr hf3 hc3
      go_roundw
      case rel => exact ⟨j + 1, by omega, by omega, by go_num, HST.out, HACC.out⟩
      case measure => simp [intOf]; omega
    · obtain rfl : j = m + 1 := by omega
      have hr := hrow
      rw [fil_full] at hr
      have HR := Lib.hid hr
      clear hr hrow
      have i1 : ¬ (m : Int) + 1 ≤ (m : Int) := by omega
      go_wp2_with fail
      go_ret
      exact ⟨_, rfl, HR.out, hb⟩
theorem specByAbove_ret (n : Int) (w : World) : Calls Try.prog 65 #[.int .i64 n] w (IntsRet w (prB n) (prL abF n)) := by
  have HG := Lib.hid (reGood_any n)
  rcases Bool.eq_false_or_eq_true (prB n) with h | h
  case inr =>
    rw [prL_no _ h, h]
    rw [h] at HG
    go_enter Try.func65, Try.ntmps65
    go_wp2_with (go_at_call 193; refine (HG.out _).mono ?_; rintro e w1 ⟨rfl, rfl⟩)
    go_ret2
    exact ⟨_, rfl, IRow.nil _ _, Below.refl _ _⟩
  obtain ⟨m, rfl, hm⟩ := prB_of h
  have HC := Lib.hid (reSine_any m hm)
  rw [prL_yes _ h, h]
  rw [h] at HG
  go_enter Try.func65, Try.ntmps65
  go_wp2_with (first | (go_at_call 193; refine (HG.out _).mono ?_; rintro e w1 ⟨rfl, rfl⟩) | (go_at_call 194; refine (HC.out _).mono ?_; rintro e w2 ⟨v, rfl, hr, hb2⟩))
  go_ret2
  exact ⟨_, rfl, hr, hb2⟩
theorem specByLast_ret (n : Int) (w : World) : Calls Try.prog 67 #[.int .i64 n] w (IntsRet w (prB n) (prL abF n)) := by
  have HG := Lib.hid (reGood_any n)
  rcases Bool.eq_false_or_eq_true (prB n) with h | h
  case inr =>
    rw [prL_no _ h, h]
    rw [h] at HG
    go_enter Try.func67, Try.ntmps67
    go_wp2_with (go_at_call 193; refine (HG.out _).mono ?_; rintro e w1 ⟨rfl, rfl⟩)
    go_ret2
    exact ⟨_, rfl, IRow.nil _ _, Below.refl _ _⟩
  obtain ⟨m, rfl, hm⟩ := prB_of h
  have HC := Lib.hid (reSine_any m hm)
  rw [prL_yes _ h, h]
  rw [h] at HG
  go_enter Try.func67, Try.ntmps67
  go_wp2_with (first | (go_at_call 193; refine (HG.out _).mono ?_; rintro e w1 ⟨rfl, rfl⟩) | (go_at_call 194; refine (HC.out _).mono ?_; rintro e w2 ⟨v, rfl, hr, hb2⟩))
  go_ret2
  exact ⟨_, rfl, hr, hb2⟩
theorem byLastI_ret (n : Int) (w : World) : Calls Try.prog 66 #[.int .i64 n] w (IntsRet w (prB n) (prL abF n)) := by
  have HC := Lib.hid (byAboveI_ret n)
  go_enter Try.func66, Try.ntmps66
  go_wp2_with (go_at_call 64; refine (HC.out _).mono ?_; rintro e w2 ⟨v, rfl, hr, hb2⟩)
  go_ret2
  exact ⟨_, rfl, hr, hb2⟩
end Go.Proofs.Ytachijliaedndaa
