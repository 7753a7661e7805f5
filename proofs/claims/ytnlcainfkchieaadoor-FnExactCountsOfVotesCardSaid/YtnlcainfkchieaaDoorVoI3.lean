/- The program: WinnersOf, LeadersAlong. -/
import Derived.Test.YtnlcainfkchieaaDoorVoI2
namespace Go.Proofs.YtnlcainfkchieaaDoor
open Go.RowKit
set_option linter.unusedVariables false
set_option maxRecDepth 100000 in
set_option maxHeartbeats 1600000 in
theorem winnersOf_ret (s : ByteArray) (w : World) (hs : s.size ≤ maxLen) : Calls Tryd.prog 22 #[.string s] w (Ret w (.tuple #[.string (winV9 s), .bool (votB s)])) := by
  have HA : Hid (∀ w, Calls Tryd.prog 17 #[.string s] w (IntsRet w (votB s) (cntV9 s))) := Lib.hid fun w => countsOf_ret s w hs
  unfold winV9
  unfold cntV9 at HA
  rcases Bool.eq_false_or_eq_true (votB s) with hv | hv
  · rw [hv, if_pos rfl] at HA
    rw [hv, if_pos rfl]
    have HM : Hid (∀ (v : Value) (B : Nat) (w : World), IRow w B v (vcL s s.size) → Calls Tryd.prog 52 #[v] w fun e w' => e = .returned (.int .i64 (moTo (vcL s s.size) 4)) ∧ w = w') := Lib.hid fun v B w h => by
      have := maxS_any v (vcL s s.size) w (RInts.of_row h) (by rw [vcL_len]; omega) (by rw [vcL_len]; omega)
      rwa [vcL_len, ← mo_mx] at this
    have HE : Hid (wiV (vcL s s.size) = strOf (wiL (vcL s s.size) (moTo (vcL s s.size) 4) 4)) := Lib.hid (by rw [wiL_str]; rfl)
    rw [HE.out]
    have HLEN : Hid ((vcL s s.size).length = 4) := Lib.hid rfl
    clear HE hv
    generalize vcL s s.size = xs at *
    generalize moTo xs 4 = M at *
    have HW := Lib.hid (fun k => wiL_yes (xs := xs) (m := M) (k := k))
    have HN := Lib.hid (fun k => wiL_no (xs := xs) (m := M) (k := k))
    have HZ := Lib.hid (fun k => wiL_len xs M k)
    have HZ0 : Hid (wiL xs M 0 = []) := Lib.hid rfl
    generalize wiL xs M = F at *
    go_enter Tryd.func22, Tryd.ntmps22
    go_wp2_with (first | (go_at_call 17; refine (HA.out _).mono ?_; rintro e w1 ⟨v, rfl, hr, hb1⟩; have HR := Lib.hid hr; obtain ⟨g, c, rfl, hgB, hgl⟩ := hr.form' HLEN.out (by omega); have hcell := fun j (hj : j < 4) => hr.cell (j := j) (by rw [HLEN.out]; exact hj); have HCELL := Lib.hid hcell; clear hr hcell) | (go_at_call 52; refine (HM.out _ _ _ HR.out).mono ?_; rintro e w2 ⟨rfl, rfl⟩))
    go_loopw [7, 8, 9, 21] (fun v q r i wr => ∃ k : Nat, k ≤ 4 ∧ i = .int .i64 (k : Int) ∧ BOwn wr w1.heap.size v (F k) ∧ Below w1.heap.size w1 wr) (fun _ _ _ i _ => 4 - (intOf i).toNat)
    case atStart => exact ⟨0, by omega, rfl, by rw [HZ0.out]; exact BOwn.nil _ _, Below.refl _ _⟩
    case round =>
      obtain ⟨k, hk, rfl, hrow, hb⟩ := hrel
      by_cases hlt : k < 4
      · have hc := (hb.cell (p := ⟨g, k, none⟩) hgl).trans (HCELL.out k hlt)
        have HW1 := Lib.hid (HW.out k)
        have HN1 := Lib.hid (HN.out k)
        have hsz := hb.size
        have HZ1 := Lib.hid (HZ.out k)
        have HROW := Lib.hid hrow
        clear HW HN HZ HZ0 HCELL hrow
        generalize xs.getD k 0 = x at *
        obtain ⟨Fk, hFk⟩ : ∃ Fk, Fk = F k := ⟨_, rfl⟩
        rw [← hFk] at HROW HW1 HN1 HZ1
        clear hFk
        by_cases hx : (x == M) = true
        · have HQ := Lib.hid (HW1.out hx)
          clear HW1 HN1
          have hk4 : k = 0 ∨ k = 1 ∨ k = 2 ∨ k = 3 := by omega
          rcases hk4 with rfl | rfl | rfl | rfl
          · go_wp2_with (at_builtin; refine wpList_pushB 97 (.tmp 29) (.tmp 32) rfl rfl w1.heap.size _ Fk rfl HROW.out rfl (by have := HZ1.out; omega) hsz ?_; intro v' w' hrow' hg' hat')
            go_roundw
            case rel => exact ⟨1, by omega, by go_num, by rw [show F 1 = Fk ++ [97] from HQ.out]; exact hrow', hb.grown hg' hsz (fun j hj => (HROW.out.blk j hj).1)⟩
            case measure => first | (simp [intOf]; done) | (simp [intOf]; omega)
          · go_wp2_with (at_builtin; refine wpList_pushB 98 (.tmp 29) (.tmp 32) rfl rfl w1.heap.size _ Fk rfl HROW.out rfl (by have := HZ1.out; omega) hsz ?_; intro v' w' hrow' hg' hat')
            go_roundw
            case rel => exact ⟨2, by omega, by go_num, by rw [show F 2 = Fk ++ [98] from HQ.out]; exact hrow', hb.grown hg' hsz (fun j hj => (HROW.out.blk j hj).1)⟩
            case measure => first | (simp [intOf]; done) | (simp [intOf]; omega)
          · go_wp2_with (at_builtin; refine wpList_pushB 99 (.tmp 29) (.tmp 32) rfl rfl w1.heap.size _ Fk rfl HROW.out rfl (by have := HZ1.out; omega) hsz ?_; intro v' w' hrow' hg' hat')
            go_roundw
            case rel => exact ⟨3, by omega, by go_num, by rw [show F 3 = Fk ++ [99] from HQ.out]; exact hrow', hb.grown hg' hsz (fun j hj => (HROW.out.blk j hj).1)⟩
            case measure => first | (simp [intOf]; done) | (simp [intOf]; omega)
          · go_wp2_with (at_builtin; refine wpList_pushB 100 (.tmp 29) (.tmp 32) rfl rfl w1.heap.size _ Fk rfl HROW.out rfl (by have := HZ1.out; omega) hsz ?_; intro v' w' hrow' hg' hat')
            go_roundw
            case rel => exact ⟨4, by omega, by go_num, by rw [show F 4 = Fk ++ [100] from HQ.out]; exact hrow', hb.grown hg' hsz (fun j hj => (HROW.out.blk j hj).1)⟩
            case measure => first | (simp [intOf]; done) | (simp [intOf]; omega)
        · have hx2 : (x == M) = false := by simpa using hx
          have HQ := Lib.hid (HN1.out hx2)
          clear hx HW1 HN1
          go_wp2
          go_roundw
          case rel => exact ⟨k + 1, by omega, by go_num, by rw [HQ.out]; exact HROW.out, hb⟩
          case measure => first | (simp [intOf]; done) | (simp [intOf]; omega)
      · obtain rfl : k = 4 := by omega
        have hcv := run_str_own hrow
        clear hrow
        go_wp2
        go_ret2
        exact ⟨rfl, hb1.trans (hb.mono hb1.size)⟩
  · rw [hv] at HA ⊢
    clear hv
    go_enter Tryd.func22, Tryd.ntmps22
    go_wp2_with (go_at_call 17; refine (HA.out _).mono ?_; rintro e w1 ⟨v, rfl, hr, hb1⟩)
    go_ret2
    exact ⟨rfl, hb1⟩
set_option maxRecDepth 100000 in
set_option maxHeartbeats 1600000 in
theorem leaders_ret (s : ByteArray) (w : World) (hs : s.size ≤ maxLen) : Calls Tryd.prog 24 #[.string s] w (StrsRet w (votB s) (leaV9 s)) := by
  have HA : Hid (∀ w, Calls Tryd.prog 15 #[.string s] w (Ret w (.bool (votB s)))) := Lib.hid fun w => areVotes_any s w hs
  unfold leaV9
  rcases Bool.eq_false_or_eq_true (votB s) with hv | hv
  · have h16 := ((votB_iff s).1 hv).1
    have HCN : Hid (∀ (k : Nat) (w : World), k ≤ s.size → Calls Tryd.prog 22 #[.string (s.extract 0 k)] w (Ret w (.tuple #[.string (wiV (vcL s k)), .bool true]))) := Lib.hid fun k w hk => by
      have hv2 := votB_pre hv hk
      have := winnersOf_ret (s.extract 0 k) w (by rw [pre_size s k hk]; unfold maxLen; omega)
      unfold winV9 at this
      rwa [hv2, if_pos rfl, pre_size s k hk, vcL_pre s k k (Nat.le_refl _)] at this
    have HL : Hid (∀ k, leL s k ++ [wiV (vcL s (k + 1))] = leL s (k + 1)) := Lib.hid fun k => rfl
    have HLL := Lib.hid (leL_len s)
    rw [hv] at HA
    rw [hv, if_pos rfl]
    clear hv
    go_enter Tryd.func24, Tryd.ntmps24
    go_wp2_with (go_at_call 15; refine (HA.out _).mono ?_; rintro e w0 ⟨rfl, hb0⟩)
    go_loopw [4, 5, 6, 7, 13] (fun v q1 q2 q3 i wr => ∃ k : Nat, k ≤ s.size ∧ i = .int .i64 (k : Int) ∧ SRow wr w.heap.size v (leL s k) ∧ Below w.heap.size w wr) (fun _ _ _ _ i _ => s.size - (intOf i).toNat)
    case atStart => exact ⟨0, Nat.zero_le _, rfl, SRow.nil _ _, hb0⟩
    case round =>
      obtain ⟨k, hk, rfl, hrow, hb⟩ := hrel
      by_cases hlt : k < s.size
      · have hsz := hb.size
        have HCK := Lib.hid (fun w => HCN.out (k + 1) w (by omega))
        have HL1 := Lib.hid (HL.out k)
        have HLN := Lib.hid (HLL.out k)
        obtain ⟨A, c0, rfl⟩ := hrow.shape
        rw [HLN.out] at hrow
        rw [HLN.out]
        have HROW := Lib.hid hrow
        clear HCN HL HLL hrow
        generalize leL s k = ls at *
        go_wp2_with (first | (go_at_call 22; refine (HCK.out _).mono ?_; rintro e w1 ⟨rfl, hb1⟩; have HB1 := Lib.hid (hb.trans (hb1.mono hsz)); have HRW1 := Lib.hid (HROW.out.below hb1)) | (at_builtin; refine wpList_pushS (.tmp 24) (.tmp 26) rfl rfl w.heap.size _ ls rfl HRW1.out rfl (by rw [HLN.out]; omega) HB1.out.size ?_; intro v' w' hrow' hg' hat'))
        go_roundw
        case rel => exact ⟨k + 1, by omega, by go_num, by rw [← HL1.out]; exact hrow', HB1.out.grown hg' HB1.out.size (fun j hj => (HRW1.out.blk j hj).1)⟩
        case measure => first | (simp [intOf]; done) | (simp [intOf]; omega)
      · obtain rfl : k = s.size := by omega
        have HR := Lib.hid hrow
        clear hrow
        go_wp2
        go_ret2
        exact ⟨_, rfl, HR.out, hb⟩
  · rw [hv] at HA ⊢
    clear hv
    go_enter Tryd.func24, Tryd.ntmps24
    go_wp2_with (go_at_call 15; refine (HA.out _).mono ?_; rintro e w1 ⟨rfl, hb1⟩)
    go_ret2
    exact ⟨_, rfl, SRow.nil _ _, hb1⟩
end Go.Proofs.YtnlcainfkchieaaDoor
