/- The model: CountsOfVotes, WinnersOf, LeadersAlong, IsOrdered, FirstOvertaken. -/
import Derived.Test.YtnlcainfkchieaaDoorVoS2
namespace Go.Proofs.YtnlcainfkchieaaDoor
open Go.RowKit
set_option linter.unusedVariables false
def cntV9 (s : ByteArray) : List Int := if votB s = true then vcL s s.size else []
theorem cntV9_len (s : ByteArray) : (cntV9 s).length ≤ 4 := by unfold cntV9; split <;> simp [vcL]
theorem specCountsOf_ret (s : ByteArray) (w : World) (hs : s.size ≤ maxLen) : Calls Tryd.prog 16 #[.string s] w (IntsRet w (votB s) (cntV9 s)) := by
  unfold cntV9
  rcases Bool.eq_false_or_eq_true (votB s) with hv | hv
  · rw [hv, if_pos rfl]
    have HV := Lib.hid hv
    have HC : Hid (∀ w, Calls Tryd.prog 49 #[.string s] w (CntNew s w)) := Lib.hid fun w => voCounts_any s w hv
    have HG : Hid (∀ w, Calls Tryd.prog 47 #[.string s] w fun e w' => e = .returned (.bool true) ∧ w = w') := Lib.hid fun w => by have := voGood_any s w hs; rwa [hv] at this
    clear hv
    go_enter Tryd.func16, Tryd.ntmps16
    go_wp2_with (first | (go_at_call 47; refine (HG.out _).mono ?_; rintro e w' ⟨rfl, rfl⟩) | (go_at_call 49; refine (HC.out _).mono ?_; rintro e w1 ⟨v, rfl, hr, hb⟩))
    go_ret2
    exact ⟨_, rfl, hr, hb⟩
  · rw [hv]
    have HG : Hid (∀ w, Calls Tryd.prog 47 #[.string s] w fun e w' => e = .returned (.bool false) ∧ w = w') := Lib.hid fun w => by have := voGood_any s w hs; rwa [hv] at this
    clear hv
    go_enter Tryd.func16, Tryd.ntmps16
    go_wp2_with (go_at_call 47; refine (HG.out _).mono ?_; rintro e w' ⟨rfl, rfl⟩)
    go_ret2
    exact ⟨_, rfl, IRow.nil _ _, Below.refl _ _⟩
def winV9 (s : ByteArray) : ByteArray := if votB s = true then wiV (vcL s s.size) else ⟨#[]⟩
theorem specWinnersOf_ret (s : ByteArray) (w : World) (hs : s.size ≤ maxLen) : Calls Tryd.prog 21 #[.string s] w (Ret w (.tuple #[.string (winV9 s), .bool (votB s)])) := by
  unfold winV9
  rcases Bool.eq_false_or_eq_true (votB s) with hv | hv
  · rw [hv, if_pos rfl]
    have HC : Hid (∀ w, Calls Tryd.prog 49 #[.string s] w (CntNew s w)) := Lib.hid fun w => voCounts_any s w hv
    have HG : Hid (∀ w, Calls Tryd.prog 47 #[.string s] w fun e w' => e = .returned (.bool true) ∧ w = w') := Lib.hid fun w => by have := voGood_any s w hs; rwa [hv] at this
    clear hv
    go_enter Tryd.func21, Tryd.ntmps21
    go_wp2_with (first | (go_at_call 47; refine (HG.out _).mono ?_; rintro e w' ⟨rfl, rfl⟩) | (go_at_call 49; refine (HC.out _).mono ?_; rintro e w1 ⟨v, rfl, hr, hb⟩; have HR := Lib.hid (RInts.of_row hr)) | (go_at_call 51; refine (voWinners_any _ _ _ HR.out rfl).mono ?_; rintro e w2 ⟨rfl, hb2⟩))
    go_ret2
    exact ⟨rfl, hb.trans (hb2.mono hb.size)⟩
  · rw [hv]
    have HG : Hid (∀ w, Calls Tryd.prog 47 #[.string s] w fun e w' => e = .returned (.bool false) ∧ w = w') := Lib.hid fun w => by have := voGood_any s w hs; rwa [hv] at this
    clear hv
    go_enter Tryd.func21, Tryd.ntmps21
    go_wp2_with (go_at_call 47; refine (HG.out _).mono ?_; rintro e w' ⟨rfl, rfl⟩)
    go_ret2
    exact ⟨rfl, Below.refl _ _⟩
def leaV9 (s : ByteArray) : List ByteArray := if votB s = true then leL s s.size else []
theorem leaV9_len (s : ByteArray) : (leaV9 s).length ≤ 16 := by
  unfold leaV9
  split
  · rename_i h
    rw [leL_len]
    exact ((votB_iff s).1 h).1
  · simp
set_option maxRecDepth 100000 in
set_option maxHeartbeats 1600000 in
theorem specLeaders_ret (s : ByteArray) (w : World) (hs : s.size ≤ maxLen) : Calls Tryd.prog 23 #[.string s] w (StrsRet w (votB s) (leaV9 s)) := by
  unfold leaV9
  rcases Bool.eq_false_or_eq_true (votB s) with hv | hv
  · rw [hv, if_pos rfl]
    have h16 := ((votB_iff s).1 hv).1
    have HCN : Hid (∀ (k : Nat) (w : World), k ≤ s.size → Calls Tryd.prog 49 #[.string (s.extract 0 k)] w fun e w' => ∃ v, e = .returned v ∧ RInts w' v (vcL s k) ∧ Below w.heap.size w w') := Lib.hid fun k w hk => by
      refine (voCounts_any (s.extract 0 k) w (votB_pre hv hk)).mono ?_
      rintro e w' ⟨v, he, hr, hb⟩
      rw [pre_size s k hk, vcL_pre s k k (Nat.le_refl _)] at hr
      exact ⟨v, he, RInts.of_row hr, hb⟩
    have HG : Hid (∀ w, Calls Tryd.prog 47 #[.string s] w fun e w' => e = .returned (.bool true) ∧ w = w') := Lib.hid fun w => by have := voGood_any s w hs; rwa [hv] at this
    have HL : Hid (∀ k, leL s k ++ [wiV (vcL s (k + 1))] = leL s (k + 1)) := Lib.hid fun k => rfl
    have HLL := Lib.hid (leL_len s)
    clear hv
    go_enter Tryd.func23, Tryd.ntmps23
    go_wp2_with (go_at_call 47; refine (HG.out _).mono ?_; rintro e w' ⟨rfl, rfl⟩)
    go_loopw [4, 5] (fun v i wr => ∃ k : Nat, k ≤ s.size ∧ i = .int .i64 ((k : Int) + 1) ∧ SRow wr w.heap.size v (leL s k) ∧ Below w.heap.size w wr) (fun _ i _ => s.size + 1 - (intOf i).toNat)
    case atStart => exact ⟨0, Nat.zero_le _, rfl, SRow.nil _ _, Below.refl _ _⟩
    case round =>
      obtain ⟨k, hk, rfl, hrow, hb⟩ := hrel
      by_cases hlt : k < s.size
      · have hsz := hb.size
        have HCK := Lib.hid (fun w => HCN.out (k + 1) w (by omega))
        have i1 : (k : Int) + 1 ≤ (s.size : Int) := by omega
        have HL1 := Lib.hid (HL.out k)
        have HLN := Lib.hid (HLL.out k)
        obtain ⟨A, c0, rfl⟩ := hrow.shape
        rw [HLN.out] at hrow
        rw [HLN.out]
        have HROW := Lib.hid hrow
        clear HCN HL HLL hrow
        generalize leL s k = ls at *
        go_wp2_with (first | (go_at_call 49; refine (HCK.out _).mono ?_; rintro e w1 ⟨v, rfl, hr, hb1⟩; have HR := Lib.hid hr; have HB1 := Lib.hid (hb.trans (hb1.mono hsz)); have HRW1 := Lib.hid (HROW.out.below hb1); clear hr) | (go_at_call 51; refine (voWinners_any _ _ _ HR.out rfl).mono ?_; rintro e w2 ⟨rfl, hb2⟩; have HB2 := Lib.hid (HB1.out.trans (hb2.mono HB1.out.size)); have HRW2 := Lib.hid (HRW1.out.below hb2)) | (at_builtin; refine wpList_pushS (.tmp 15) (.tmp 21) rfl rfl w.heap.size _ ls rfl HRW2.out rfl (by rw [HLN.out]; omega) HB2.out.size ?_; intro v' w' hrow' hg' hat'))
        go_roundw
        case rel => exact ⟨k + 1, by omega, by go_num, by rw [← HL1.out]; exact hrow', HB2.out.grown hg' HB2.out.size (fun j hj => (HRW2.out.blk j hj).1)⟩
        case measure => first | (simp [intOf]; done) | (simp [intOf]; omega)
      · have i1 : ¬ (k : Int) + 1 ≤ (s.size : Int) := by omega
        obtain rfl : k = s.size := by omega
        have HR := Lib.hid hrow
        clear hrow
        go_wp2
        go_ret2
        exact ⟨_, rfl, HR.out, hb⟩
  · rw [hv]
    have HG : Hid (∀ w, Calls Tryd.prog 47 #[.string s] w fun e w' => e = .returned (.bool false) ∧ w = w') := Lib.hid fun w => by have := voGood_any s w hs; rwa [hv] at this
    clear hv
    go_enter Tryd.func23, Tryd.ntmps23
    go_wp2_with (go_at_call 47; refine (HG.out _).mono ?_; rintro e w' ⟨rfl, rfl⟩)
    go_ret2
    exact ⟨_, rfl, SRow.nil _ _, Below.refl _ _⟩
theorem specIsOrdered_ret (s : ByteArray) (w : World) (hs : s.size ≤ maxLen) : Calls Tryd.prog 28 #[.string s] w (Ret w (.tuple #[.bool (oB s), .bool (votB s)])) := by
  rcases Bool.eq_false_or_eq_true (votB s) with hv | hv
  · have HF : Hid (∀ w, Calls Tryd.prog 54 #[.string s] w (Ret w (.int .i64 (foI s)))) := Lib.hid fun w => voFirst_any s w hv
    have HG : Hid (∀ w, Calls Tryd.prog 47 #[.string s] w fun e w' => e = .returned (.bool true) ∧ w = w') := Lib.hid fun w => by have := voGood_any s w hs; rwa [hv] at this
    by_cases h0 : foTo s s.size = 0
    · have HO : Hid (oB s = true) := Lib.hid (by unfold oB; rw [hv, decide_eq_true h0]; rfl)
      have e : foI s = -1 := by unfold foI; rw [if_pos h0]
      rw [e] at HF
      rw [hv, HO.out]
      clear hv h0 e
      go_enter Tryd.func28, Tryd.ntmps28
      go_wp2_with (first | (go_at_call 47; refine (HG.out _).mono ?_; rintro e w' ⟨rfl, rfl⟩) | (go_at_call 54; refine (HF.out _).mono ?_; rintro e w1 ⟨rfl, hb⟩))
      go_ret2
      exact ⟨rfl, hb⟩
    · have HO : Hid (oB s = false) := Lib.hid (by unfold oB; rw [hv, decide_eq_false h0]; rfl)
      have e : ¬ foI s < 0 := by unfold foI; rw [if_neg h0]; omega
      rw [hv, HO.out]
      clear hv h0
      generalize foI s = F at *
      go_enter Tryd.func28, Tryd.ntmps28
      go_wp2_with (first | (go_at_call 47; refine (HG.out _).mono ?_; rintro e w' ⟨rfl, rfl⟩) | (go_at_call 54; refine (HF.out _).mono ?_; rintro e w1 ⟨rfl, hb⟩))
      go_ret2
      exact ⟨ret_bb (decide_eq_false (by omega)) rfl, hb⟩
  · have HG : Hid (∀ w, Calls Tryd.prog 47 #[.string s] w fun e w' => e = .returned (.bool false) ∧ w = w') := Lib.hid fun w => by have := voGood_any s w hs; rwa [hv] at this
    have e : oB s = false := by unfold oB; rw [hv]; rfl
    rw [e, hv]
    clear hv e
    go_enter Tryd.func28, Tryd.ntmps28
    go_wp2_with (go_at_call 47; refine (HG.out _).mono ?_; rintro e w' ⟨rfl, rfl⟩)
    go_ret2
    exact ⟨rfl, Below.refl _ _⟩
def foV (s : ByteArray) : Int := if votB s = true then ((foTo s s.size : Nat) : Int) else 0
def foOk (s : ByteArray) : Bool := votB s && decide (0 < foTo s s.size)
set_option maxHeartbeats 800000 in
theorem specFirstOver_ret (s : ByteArray) (w : World) (hs : s.size ≤ maxLen) : Calls Tryd.prog 30 #[.string s] w (Ret w (.tuple #[.int .i64 (foV s), .bool (foOk s)])) := by
  unfold foV foOk
  rcases Bool.eq_false_or_eq_true (votB s) with hv | hv
  · have HF : Hid (∀ w, Calls Tryd.prog 54 #[.string s] w (Ret w (.int .i64 (foI s)))) := Lib.hid fun w => voFirst_any s w hv
    have HG : Hid (∀ w, Calls Tryd.prog 47 #[.string s] w fun e w' => e = .returned (.bool true) ∧ w = w') := Lib.hid fun w => by have := voGood_any s w hs; rwa [hv] at this
    rw [hv, if_pos rfl, Bool.true_and]
    by_cases h0 : foTo s s.size = 0
    · have e : foI s = -1 := by unfold foI; rw [if_pos h0]
      rw [e] at HF
      rw [h0, decide_eq_false (by omega)]
      clear hv h0 e
      go_enter Tryd.func30, Tryd.ntmps30
      go_wp2_with (first | (go_at_call 47; refine (HG.out _).mono ?_; rintro e w' ⟨rfl, rfl⟩) | (go_at_call 54; refine (HF.out _).mono ?_; rintro e w1 ⟨rfl, hb⟩))
      go_ret2
      exact ⟨rfl, hb⟩
    · have e : foI s = ((foTo s s.size : Nat) : Int) := by unfold foI; rw [if_neg h0]
      rw [e] at HF
      rw [decide_eq_true (by omega)]
      generalize foTo s s.size = F at *
      have hp : ¬ (F : Int) < 0 := by omega
      clear hv h0 e
      have tok1 : True := trivial
      go_enter Tryd.func30, Tryd.ntmps30
      go_wp2_with (first | (go_at_call 47; refine (HG.out _).mono ?_; rintro e w' ⟨rfl, rfl⟩) | (go_at_call 54; have _t := tok1; refine (HF.out _).mono ?_; rintro e w1 ⟨rfl, hb⟩; clear tok1 _t; have hacc := hb; have hsz := hb.size; clear hb) | (go_at_call 54; refine (HF.out _).mono ?_; rintro e w2 ⟨rfl, hb2⟩; replace hacc := hacc.trans (hb2.mono hsz)))
      go_ret2
      exact ⟨rfl, hacc⟩
  · have HG : Hid (∀ w, Calls Tryd.prog 47 #[.string s] w fun e w' => e = .returned (.bool false) ∧ w = w') := Lib.hid fun w => by have := voGood_any s w hs; rwa [hv] at this
    rw [hv]
    clear hv
    go_enter Tryd.func30, Tryd.ntmps30
    go_wp2_with (go_at_call 47; refine (HG.out _).mono ?_; rintro e w' ⟨rfl, rfl⟩)
    go_ret2
    exact ⟨rfl, Below.refl _ _⟩
end Go.Proofs.YtnlcainfkchieaaDoor
