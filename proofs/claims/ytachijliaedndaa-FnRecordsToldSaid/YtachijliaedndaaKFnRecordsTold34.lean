/- Pack 34 of what FnRecordsTold needs: RlS, RecI. -/
import Derived.Test.YtachijliaedndaaKFnRecordsTold33
/- Literal rows for the draws, and the law's word for inputs that are too long. -/
namespace Go.Proofs.Ytachijliaedndaa
open Go.RowKit
set_option linter.unusedVariables false
theorem rowLit (w : World) (C : Array Value) (xs : List Int) (P : Int → Prop) (hC : C = (xs.map (Value.int .i64)).toArray) (hP : ∀ x ∈ xs, P x) : RowI (w.alloc (.cells C 3)) w.heap.size xs.length P := by
  subst hC
  refine ⟨by simp, fun j hj => ⟨xs.getD j 0, ?_, ?_⟩⟩
  · rw [List.getD_eq_getElem?_getD, List.getElem?_eq_getElem hj]
    exact hP _ (List.getElem_mem hj)
  · rw [List.getD_eq_getElem?_getD, List.getElem?_eq_getElem hj]
    simp [hj]
def Small (x : Int) : Prop := -1 ≤ x ∧ x ≤ 13
set_option maxHeartbeats 400000 in
theorem bigAny (A1 A2 : Option Addr) (l1 c1 l2 c2 : Nat) (w : World) (h1 : l1 ≤ maxLen) (h2 : l2 ≤ maxLen) :
    Calls Try.prog 9 #[.slice A1 l1 c1, .slice A2 l2 c2] w fun e w' => e = .returned (.bool (decide (1048576 < l1 + l2))) ∧ w = w' := by
  unfold maxLen at h1 h2
  by_cases hb : 1048576 < l1
  · have e : decide (1048576 < l1 + l2) = true := decide_eq_true (by omega)
    rw [e]
    go_enter Try.func9, Try.ntmps9
    go_wp2
    go_ret
    exact ⟨rfl, rfl⟩
  · have d1 : decide ((1048576 : Int) < (l1 : Int)) = false := decide_eq_false (by omega)
    by_cases hb2 : (1048576 : Int) - (l1 : Int) < (l2 : Int)
    · have e : decide (1048576 < l1 + l2) = true := decide_eq_true (by omega)
      rw [e]
      have d2 : decide ((1048576 : Int) - (l1 : Int) < (l2 : Int)) = true := decide_eq_true hb2
      go_enter Try.func9, Try.ntmps9
      go_wp2
      go_ret
      exact ⟨rfl, rfl⟩
    · have e : decide (1048576 < l1 + l2) = false := decide_eq_false (by omega)
      rw [e]
      have d2 : decide ((1048576 : Int) - (l1 : Int) < (l2 : Int)) = false := decide_eq_false hb2
      go_enter Try.func9, Try.ntmps9
      go_wp2
      go_ret
      exact ⟨rfl, rfl⟩
end Go.Proofs.Ytachijliaedndaa

/- RecordsOfPath, StepsAbove: both sides. -/
namespace Go.Proofs.Ytachijliaedndaa
open Go.RowKit
set_option linter.unusedVariables false
set_option maxHeartbeats 400000 in
theorem records_ret (s : ByteArray) (w : World) (hs : s.size ≤ maxLen) : Calls Try.prog 51 #[.string s] w (IntsRet w (pathB s) (recV s)) := by
  unfold recV
  rcases Bool.eq_false_or_eq_true (pathB s) with hp | hp
  · rw [hp, if_pos rfl]
    have HP := Lib.hid hp
    have h40 := ((pathB_iff s).1 hp).1
    clear hp
    go_enter Try.func51, Try.ntmps51
    go_wp2_with (go_at_call 19; refine (heights_any s _ hs HP.out).mono ?_; rintro e w1 ⟨v, rfl, hr, hb⟩; obtain ⟨g, c, rfl, hgB, hgl⟩ := hr.form' (hts_length s) (by omega))
    have hr2 := Lib.hid hr
    have hsz1 := hb.size
    go_loopw [6, 7, 8, 16] (fun v a b i wr => ∃ k : Nat, k ≤ s.size + 1 ∧ i = .int .i64 (k : Int) ∧ IRow wr w1.heap.size v (recTo s k) ∧ Below w1.heap.size w1 wr) (fun _ _ _ i _ => s.size + 1 - (intOf i).toNat)
    case atStart => exact ⟨0, Nat.zero_le _, rfl, IRow.nil _ _, Below.refl _ _⟩
    case round =>
      obtain ⟨k, hk, rfl, hrow, hbr⟩ := hrel
      by_cases hlt : k < s.size + 1
      · have hc : wr.cell? ⟨g, k, none⟩ = some (.int .i64 (hAt s k)) := (hbr.cell (p := ⟨g, k, none⟩) hgl).trans (hts_at hr2.out k (by omega))
        have hle := recTo_len s k
        have hsz := hbr.size
        have h2 := hAt_bd s k (by omega)
        obtain ⟨A, c0, rfl⟩ := hrow.shape
        by_cases hgt : ((recTo s k).length : Int) < hAt s k
        · have HY := Lib.hid (recTo_yes hgt)
          go_wp2_with (at_builtin; refine wpList_push (.tmp 25) (.tmp 27) rfl rfl w1.heap.size _ (recTo s k) rfl hrow rfl (by omega) hsz ?_; intro v' w' hrow' hg' hat')
          go_roundw
          case rel => exact ⟨k + 1, by omega, by go_num, by rw [HY.out]; exact hrow', hbr.grown hg' hsz (fun j hj => (hrow.blk j hj).1)⟩
          case measure => simp [intOf]; omega
        · have HN := Lib.hid (recTo_no hgt)
          go_wp2
          go_roundw
          case rel => exact ⟨k + 1, by omega, by go_num, by rw [HN.out]; exact hrow, hbr⟩
          case measure => simp [intOf]; omega
      · go_wp2
        obtain rfl : k = s.size + 1 := by omega
        go_ret2
        exact ⟨_, rfl, hrow.mono hsz1, hb.trans (hbr.mono hsz1)⟩
  · rw [hp]
    go_enter Try.func51, Try.ntmps51
    go_wp2_with (go_at_call 19; refine (heights_no s _ hs hp).mono ?_; rintro e w' ⟨rfl, rfl⟩)
    refine wp_loop_rounds 1 ?_; rw [rounds_succ]
    go_wp2
    go_ret2
    exact ⟨_, rfl, IRow.nil _ _, Below.refl _ _⟩
set_option maxHeartbeats 400000 in
theorem specRecords_ret (s : ByteArray) (w : World) (hs : s.size ≤ maxLen) : Calls Try.prog 52 #[.string s] w (IntsRet w (pathB s) (recV s)) := by
  unfold recV
  rcases Bool.eq_false_or_eq_true (pathB s) with hp | hp
  · rw [hp, if_pos rfl]
    have HP := Lib.hid hp
    have h40 := ((pathB_iff s).1 hp).1
    go_enter Try.func52, Try.ntmps52
    go_wp2_with (first | (go_at_call 143; refine (paGood_any s _ hs).mono ?_; rintro e w' ⟨rfl, rfl⟩) | (go_at_call 150; refine (paHeights_any s _ HP.out).mono ?_; rintro e w1 ⟨v, rfl, hr, hb⟩; obtain ⟨g, c, rfl, hgB, hgl⟩ := hr.form' (hts_length s) (by omega)))
    have hr2 := Lib.hid hr
    have hsz1 := hb.size
    go_loopw [4, 5, 6, 7, 14] (fun v u a b i wr => ∃ k : Nat, k ≤ s.size + 1 ∧ i = .int .i64 (k : Int) ∧ u = .int .i64 ((recTo s k).length : Int) ∧ IRow wr w1.heap.size v (recTo s k) ∧ Below w1.heap.size w1 wr) (fun _ _ _ _ i _ => s.size + 1 - (intOf i).toNat)
    case atStart => exact ⟨0, Nat.zero_le _, rfl, rfl, IRow.nil _ _, Below.refl _ _⟩
    case round =>
      obtain ⟨k, hk, rfl, rfl, hrow, hbr⟩ := hrel
      by_cases hlt : k < s.size + 1
      · have hc : wr.cell? ⟨g, k, none⟩ = some (.int .i64 (hAt s k)) := (hbr.cell (p := ⟨g, k, none⟩) hgl).trans (hts_at hr2.out k (by omega))
        have hle := recTo_len s k
        have hsz := hbr.size
        have h2 := hAt_bd s k (by omega)
        have h3 := (rec_most s k).1
        by_cases hgt : ((recTo s k).length : Int) < hAt s k
        · have HY := Lib.hid (recTo_yes hgt)
          have HE : Hid (hAt s k = (((recTo s k ++ [(k : Int)]).length : Nat) : Int)) := Lib.hid (by rw [List.length_append]; simp; omega)
          go_wp2_with (at_builtin; refine wpList_push (.tmp 23) (.tmp 25) rfl rfl w1.heap.size _ (recTo s k) rfl hrow rfl (by omega) hsz ?_; intro v' w' hrow' hg' hat')
          go_roundw
          case rel => exact ⟨k + 1, by omega, by go_num, by rw [HY.out, HE.out], by rw [HY.out]; exact hrow', hbr.grown hg' hsz (fun j hj => (hrow.blk j hj).1)⟩
          case measure => simp [intOf]; omega
        · have HN := Lib.hid (recTo_no hgt)
          go_wp2
          go_roundw
          case rel => exact ⟨k + 1, by omega, by go_num, by rw [HN.out], by rw [HN.out]; exact hrow, hbr⟩
          case measure => simp [intOf]; omega
      · go_wp2
        obtain rfl : k = s.size + 1 := by omega
        go_ret2
        exact ⟨_, rfl, hrow.mono hsz1, hb.trans (hbr.mono hsz1)⟩
  · rw [hp]
    go_enter Try.func52, Try.ntmps52
    go_wp2_with (go_at_call 143; refine (paGood_any s _ hs).mono ?_; rintro e w' ⟨rfl, rfl⟩)
    go_ret2
    exact ⟨_, rfl, IRow.nil _ _, Below.refl _ _⟩
set_option maxHeartbeats 400000 in
theorem reAbove_ret (s : ByteArray) (w : World) (hp : pathB s = true) : Calls Try.prog 187 #[.string s] w (Ret w (.int .i64 (abvTo s s.size))) := by
  have HP := Lib.hid hp
  have h40 := ((pathB_iff s).1 hp).1
  clear hp
  go_enter Try.func187, Try.ntmps187
  go_wp2_with (go_at_call 150; refine (paHeights_any s _ HP.out).mono ?_; rintro e w1 ⟨v, rfl, hr, hb⟩; obtain ⟨g, c, rfl, hgB, hgl⟩ := hr.form' (hts_length s) (by omega))
  go_loop [3, 5] (fun u i => ∃ k : Nat, k ≤ s.size ∧ i = .int .i64 ((k : Int) + 1) ∧ u = .int .i64 (abvTo s k)) (fun _ i => s.size + 1 - (intOf i).toNat)
  case atStart => exact ⟨0, Nat.zero_le _, rfl, rfl⟩
  case round =>
    obtain ⟨k, hk, rfl, rfl⟩ := hrel
    by_cases hlt : k < s.size
    · have c0 := hts_at hr k (by omega)
      have c1 := hts_at hr (k + 1) (by omega)
      have h1 := abvTo_bd s k
      have i1 : (k : Int) + 1 < (s.size : Int) + 1 := by omega
      by_cases g0 : 0 ≤ hAt s k
      · by_cases g1 : 0 ≤ hAt s (k + 1)
        · have HY := Lib.hid (abw_yes ⟨g0, g1⟩)
          go_wp2
          go_round
          case rel => exact ⟨k + 1, by omega, by go_num, by rw [HY.out]⟩
          case measure => simp [intOf]; omega
        · have HN := Lib.hid (abw_no (fun x : 0 ≤ hAt s k ∧ 0 ≤ hAt s (k + 1) => g1 x.2))
          go_wp2
          go_round
          case rel => exact ⟨k + 1, by omega, by go_num, by rw [HN.out]⟩
          case measure => simp [intOf]; omega
      · have HN := Lib.hid (abw_no (fun x : 0 ≤ hAt s k ∧ 0 ≤ hAt s (k + 1) => g0 x.1))
        go_wp2
        go_round
        case rel => exact ⟨k + 1, by omega, by go_num, by rw [HN.out]⟩
        case measure => simp [intOf]; omega
    · obtain rfl : k = s.size := by omega
      go_wp2
      go_ret
      exact ⟨rfl, hb⟩
theorem specStepsAbove_ret (s : ByteArray) (w : World) (hs : s.size ≤ maxLen) : Calls Try.prog 54 #[.string s] w (Ret w (.tuple #[.int .i64 (abvV s), .bool (pathB s)])) := by
  unfold abvV
  rcases Bool.eq_false_or_eq_true (pathB s) with hp | hp
  · have HP := Lib.hid hp
    rw [hp, if_pos rfl]
    go_enter Try.func54, Try.ntmps54
    go_wp2_with (first | (go_at_call 143; refine (paGood_any s _ hs).mono ?_; rintro e w' ⟨rfl, rfl⟩) | (go_at_call 187; refine (reAbove_ret s _ HP.out).mono ?_; rintro e w1 ⟨rfl, hb⟩))
    go_ret2
    exact ⟨rfl, hb⟩
  · rw [hp]
    go_enter Try.func54, Try.ntmps54
    go_wp2_with (go_at_call 143; refine (paGood_any s _ hs).mono ?_; rintro e w' ⟨rfl, rfl⟩)
    go_ret2
    exact ⟨rfl, Below.refl _ _⟩
set_option maxHeartbeats 400000 in
theorem stepsAbove_ret (s : ByteArray) (w : World) (hs : s.size ≤ maxLen) : Calls Try.prog 53 #[.string s] w (Ret w (.tuple #[.int .i64 (abvV s), .bool (pathB s)])) := by
  unfold abvV
  rcases Bool.eq_false_or_eq_true (pathB s) with hp | hp
  · rw [hp, if_pos rfl]
    have HP := Lib.hid hp
    have h40 := ((pathB_iff s).1 hp).1
    clear hp
    go_enter Try.func53, Try.ntmps53
    go_wp2_with (go_at_call 19; refine (heights_any s _ hs HP.out).mono ?_; rintro e w1 ⟨v, rfl, hr, hb⟩; obtain ⟨g, c, rfl, hgB, hgl⟩ := hr.form' (hts_length s) (by omega))
    go_loopw [6, 7] (fun u i wr => ∃ k : Nat, k ≤ s.size ∧ i = .int .i64 ((k : Int) + 1) ∧ u = .int .i64 (abvTo s k) ∧ IRow wr w.heap.size (.slice (some ⟨g, 0, none⟩) (s.size + 1) c) (hts s) ∧ Below w.heap.size w wr) (fun _ i _ => s.size + 1 - (intOf i).toNat)
    case atStart => exact ⟨0, Nat.zero_le _, rfl, rfl, hr, hb⟩
    case round =>
      obtain ⟨k, hk, rfl, rfl, hrr, hbr⟩ := hrel
      clear hr hb
      by_cases hlt : k < s.size
      · have c0 := hts_at hrr k (by omega)
        have c1 := hts_at hrr (k + 1) (by omega)
        have h1 := abvTo_bd s k
        have HRR := Lib.hid hrr
        have HBR := Lib.hid hbr
        clear hrr hbr
        have i1 : (k : Int) + 1 < (s.size : Int) + 1 := by omega
        have i2 : (k : Int) < (s.size : Int) + 1 := by omega
        have i3 : (0 : Int) ≤ (k : Int) + 1 := by omega
        by_cases g0 : 0 ≤ hAt s k ∧ 0 ≤ hAt s (k + 1)
        · have HY := Lib.hid (abw_yes g0)
          have q0 : (0 : Int) ≤ min (hAt s k) (hAt s (k + 1)) := by omega
          generalize hAt s k = x at c0 c1 g0 q0
          generalize hAt s (k + 1) = y at c0 c1 g0 q0
          go_wp2
          go_region
          go_wp2
          go_roundw
          case rel => exact ⟨k + 1, by omega, by go_num, by rw [HY.out], HRR.out.drew, HBR.out.drew⟩
          case measure => simp [intOf]; omega
        · have HN := Lib.hid (abw_no g0)
          have q0 : ¬ (0 : Int) ≤ min (hAt s k) (hAt s (k + 1)) := by omega
          generalize hAt s k = x at c0 c1 g0 q0
          generalize hAt s (k + 1) = y at c0 c1 g0 q0
          go_wp2
          go_region
          go_wp2
          go_roundw
          case rel => exact ⟨k + 1, by omega, by go_num, by rw [HN.out], HRR.out.drew, HBR.out.drew⟩
          case measure => simp [intOf]; omega
      · obtain rfl : k = s.size := by omega
        go_wp2
        go_ret2
        exact ⟨rfl, hbr⟩
  · rw [hp]
    go_enter Try.func53, Try.ntmps53
    go_wp2_with (go_at_call 19; refine (heights_no s _ hs hp).mono ?_; rintro e w' ⟨rfl, rfl⟩)
    refine wp_loop_rounds 1 ?_; rw [rounds_succ]
    go_wp2
    go_ret2
    exact ⟨rfl, Below.refl _ _⟩
end Go.Proofs.Ytachijliaedndaa
