/- The program's IsWay, CellsOfWay, EndOfWay. -/
import Derived.Test.YtahnknbggacndaaPcI
import Derived.Test.YtahnknbggacndaaNcE
namespace Go.Proofs.Ytahnknbggacndaa
open Go.RowKit
set_option linter.unusedVariables false
theorem isWayI_ret (x y : Int) (s : ByteArray) (w : World) (hs : s.size ≤ maxLen) : Calls Try.prog 26 #[wayV x y s] w (Ret w (.bool (wayB x y s))) := by
  have HX := Lib.hid (WBox.start w x y s)
  have HC : Hid (∀ w, Calls Try.prog 80 #[wayV x y s] w (PsRet w (wayB x y s) (ncN x y s) (ncX x y s))) := Lib.hid fun w => placesOf_any x y s w hs
  generalize wayB x y s = b at *
  generalize ncN x y s = n at *
  generalize ncX x y s = xs at *
  go_enter Try.func26, Try.ntmps26
  go_wp2_with (go_at_call 80; refine (HC.out _).mono ?_; rintro e w1 ⟨v1, rfl, hr1, hb1⟩; have HX1 := Lib.hid (HX.out.kept hb1); clear hr1 hb1)
  go_ret
  exact ⟨rfl, HX1.out.below⟩
set_option maxRecDepth 100000 in
set_option maxHeartbeats 1000000 in
theorem endWI_ret (x y : Int) (s : ByteArray) (w : World) (hs : s.size ≤ maxLen) : Calls Try.prog 33 #[wayV x y s] w (Ret w (.tuple #[celV (ewX x y s) (ewY x y s), .bool (wayB x y s)])) := by
  have HX := Lib.hid (WZ.start w x y s)
  have HC : Hid (∀ w, Calls Try.prog 80 #[wayV x y s] w (PsRet w (wayB x y s) (ncN x y s) (ncX x y s))) := Lib.hid fun w => placesOf_any x y s w hs
  have HPC : Hid (∀ x y w, Calls Try.prog 81 #[celV x y] w (Ret w (celV x y))) := Lib.hid placeCell_ret
  rcases Bool.eq_false_or_eq_true (wayB x y s) with hw | hw
  · have e1 : ncN x y s = s.size + 1 := by unfold ncN; rw [if_pos hw]
    have e2 : ncX x y s = clF s x y s.size := by unfold ncX; rw [if_pos hw]
    have e3 : ewX x y s = cX s x s.size := by unfold ewX; rw [if_pos hw]
    have e4 : ewY x y s = cY s y s.size := by unfold ewY; rw [if_pos hw]
    have hl := clF_x s x y (k := s.size) (j := s.size) (Nat.le_refl _)
    have hr := clF_y s x y (k := s.size) (j := s.size) (Nat.le_refl _)
    have h24 := (wayB_of hw).2.1
    rw [hw, e1, e2] at HC
    rw [e3, e4, hw]
    clear e1 e2 e3 e4 hw
    generalize clF s x y s.size = xs at *
    generalize cX s x s.size = u at *
    generalize cY s y s.size = v at *
    have i1 : (s.size : Int) < (s.size : Int) + 1 := by omega
    go_enter Try.func33, Try.ntmps33
    go_wp2_with (first | (go_at_call 80; refine (HC.out _).mono ?_; rintro e w1 ⟨v1, rfl, hr1, hb1⟩; have hx1 := HX.out.kept hb1; obtain ⟨g1, c1, rfl, _, _⟩ := hr1.form (by omega); have l0 := hr1.cell (j := s.size * 2) (by omega); have l1 := hr1.cell (j := s.size * 2 + 1) (by omega); rw [hl] at l0; rw [hr] at l1; have HX1 := Lib.hid hx1; clear hr1 hb1 hx1) | (go_at_call 81; refine (HPC.out _ _ _).mono ?_; rintro e w2 ⟨rfl, hb2⟩; have hx1 := HX1.out.kept hb2; have q0 := hx1.z0; have q1 := hx1.z1; have q2 := hx1.f0; have q3 := hx1.f1; have HX2 := Lib.hid hx1; clear hb2 hx1))
    obtain ⟨z0, z1, hzb⟩ := HX2.out.done u v
    refine bodyPost_ret (v := .tuple #[celV u v, .bool true]) ?_ rfl ⟨rfl, hzb⟩
    clear hzb
    generalize (w2.setCell ⟨w.heap.size + 1, 0, none⟩ (.int .i64 u)).setCell ⟨w.heap.size + 1, 1, none⟩ (.int .i64 v) = WF at *
    simp [results, Try.f33, go_sem, z0, z1]
  · have e1 : ncN x y s = 0 := by simp [ncN, hw]
    have e2 : ncX x y s = [] := by simp [ncX, hw]
    have e3 : ewX x y s = 0 := by simp [ewX, hw]
    have e4 : ewY x y s = 0 := by simp [ewY, hw]
    rw [hw, e1, e2] at HC
    rw [e3, e4, hw]
    clear e1 e2 e3 e4 hw
    go_enter Try.func33, Try.ntmps33
    go_wp2_with (go_at_call 80; refine (HC.out _).mono ?_; rintro e w1 ⟨v1, rfl, hr1, hb1⟩; have hx1 := HX.out.kept hb1; have q0 := hx1.z0; have q1 := hx1.z1; have q2 := hx1.f0; have q3 := hx1.f1; obtain ⟨A1, c1, rfl⟩ := hr1.shape; have HX1 := Lib.hid hx1; clear hr1 hb1 hx1)
    obtain ⟨z0, z1, hzb⟩ := HX1.out.done 0 0
    refine bodyPost_ret (v := .tuple #[celV 0 0, .bool false]) ?_ rfl ⟨rfl, hzb⟩
    clear hzb
    generalize (w1.setCell ⟨w.heap.size + 1, 0, none⟩ (.int .i64 0)).setCell ⟨w.heap.size + 1, 1, none⟩ (.int .i64 0) = WF at *
    simp [results, Try.f33, go_sem, z0, z1]
theorem take_two2 (xs : List Int) {k n : Nat} (h : k < n) (hl : xs.length = n * 2) : xs.take (k * 2) ++ [xs.getD (k * 2) 0, xs.getD (k * 2 + 1) 0] = xs.take ((k + 1) * 2) := by
  rw [show (k + 1) * 2 = k * 2 + 1 + 1 by omega, List.take_succ_eq_append_getElem (show k * 2 + 1 < xs.length by omega), List.take_succ_eq_append_getElem (show k * 2 < xs.length by omega), List.append_assoc]
  rw [List.getD_eq_getElem?_getD, List.getD_eq_getElem?_getD, List.getElem?_eq_getElem (show k * 2 < xs.length by omega), List.getElem?_eq_getElem (show k * 2 + 1 < xs.length by omega)]
  rfl
set_option maxRecDepth 100000 in
set_option maxHeartbeats 2000000 in
theorem cellsI_ret (x y : Int) (s : ByteArray) (w : World) (hs : s.size ≤ maxLen) : Calls Try.prog 28 #[wayV x y s] w (CsRet w (wayB x y s) (ncN x y s) (ncX x y s)) := by
  have HX := Lib.hid (WBox.start w x y s)
  have HC : Hid (∀ w, Calls Try.prog 80 #[wayV x y s] w (PsRet w (wayB x y s) (ncN x y s) (ncX x y s))) := Lib.hid fun w => placesOf_any x y s w hs
  have HPC : Hid (∀ x y w, Calls Try.prog 81 #[celV x y] w (Ret w (celV x y))) := Lib.hid placeCell_ret
  have hn : ncN x y s ≤ 25 := by
    unfold ncN
    split
    · next h => have := (wayB_of h).2.1; omega
    · omega
  generalize wayB x y s = b at *
  generalize ncN x y s = n at *
  generalize ncX x y s = xs at *
  go_enter Try.func28, Try.ntmps28
  go_wp2_with (go_at_call 80; refine (HC.out _).mono ?_; rintro e w1 ⟨v1, rfl, hr1, hb1⟩; obtain ⟨A1, c1, rfl⟩ := hr1.shape)
  have HW1 : Hid (PRow w1 (w.heap.size + 1) (.slice A1 n c1) n xs) := Lib.hid (hr1.mono (by simp))
  have HBL := Lib.hid hr1.blk
  have hxl := hr1.2
  have hwb : Below w.heap.size w w1 := ((Below.refl _ _).alloc (Nat.le_refl _) _).trans (hb1.mono (by simp))
  have HWB := Lib.hid hwb
  clear hr1 hb1 HX hwb
  go_loopw [6, 16] (fun o i wr => ∃ k : Nat, k ≤ n ∧ i = .int .i64 (k : Int) ∧ CRow wr w.heap.size o k (xs.take (k * 2)) ∧ PRow wr (w.heap.size + 1) (.slice A1 n c1) n xs ∧ (∀ q, o.ownBlock = some q → w1.heap.size ≤ q) ∧ w1.heap.size ≤ wr.heap.size ∧ Below w1.heap.size w1 wr) (fun _ i _ => n - (intOf i).toNat)
  case atStart => exact ⟨0, Nat.zero_le _, rfl, CRow.nil _ _, HW1.out, (fun q h => by cases h), Nat.le_refl _, Below.refl _ _⟩
  case round =>
    obtain ⟨k, hk, rfl, hrow, hpr, hob, hsz, hb⟩ := hrel
    clear HW1
    obtain ⟨A2, c2, rfl⟩ := hrow.shape
    by_cases hlt : k < n
    · obtain ⟨g1, c3, e1, _, _⟩ := hpr.form (by omega)
      injection e1 with e1 _ e3
      subst e1 e3
      have i1 : (k : Int) < (n : Int) := by omega
      have i2 : (0 : Int) ≤ (k : Int) := by omega
      have l0 := hpr.cell (j := k * 2) (by omega)
      have l1 := hpr.cell (j := k * 2 + 1) (by omega)
      have HT := Lib.hid (take_two2 xs hlt hxl)
      generalize xs.getD (k * 2) 0 = u at *
      generalize xs.getD (k * 2 + 1) 0 = v at *
      have hb2 : Below wr.heap.size wr (wr.alloc (.cells #[.int .i64 u, .int .i64 v] 93)) := (Below.refl _ _).alloc (Nat.le_refl _) _
      have HRW := Lib.hid (hrow.below hb2)
      have HPR := Lib.hid (hpr.below hb2)
      have HOB := Lib.hid hob
      have HBB := Lib.hid (hb.trans (hb2.mono hsz))
      have HSZ := Lib.hid (Nat.le_trans hsz hb2.size)
      clear hrow hpr hob hb hb2 hsz
      go_wp2_with (first | (go_at_call 81; refine (HPC.out _ _ _).mono ?_; rintro e w2 ⟨rfl, hb2⟩; have HRW2 := Lib.hid (HRW.out.below hb2); have HPR2 := Lib.hid (HPR.out.below hb2); have HBB2 := Lib.hid (HBB.out.trans (hb2.mono HSZ.out)); have HSZ2 := Lib.hid (Nat.le_trans HSZ.out hb2.size); clear hb2) | (refine wpList_pushC u v (.tmp 20) (.tmp 23) rfl rfl w.heap.size _ k _ rfl HRW2.out w2.heap.size rfl rfl (by omega) (Nat.le_trans HWB.out.size HSZ2.out) ?_; intro v' w' hr' hg' hat'))
      have hob' : ∀ q, v'.ownBlock = some q → w1.heap.size ≤ q := fun q hq => by
        rcases hat' with e | ⟨g, e, hge⟩
        · rw [e] at hq; exact HOB.out q hq
        · rw [e] at hq
          injection hq with hq
          have := HSZ2.out
          omega
      have hbw : Below w1.heap.size w2 w' := (Below.refl _ _).grown hg' HSZ2.out HOB.out
      have hpr' : PRow w' (w.heap.size + 1) (.slice (some ⟨g1, 0, none⟩) n c1) n xs := HPR2.out.grown_other (B2 := w1.heap.size) hg' (fun q hq => (HBL.out q hq).2) HOB.out
      rw [HT.out] at hr'
      have HR' := Lib.hid hr'
      have HPR' := Lib.hid hpr'
      have HOB' := Lib.hid hob'
      have HBW := Lib.hid (HBB2.out.trans hbw)
      have HSW := Lib.hid (Nat.le_trans HSZ2.out hg'.size)
      obtain ⟨A5, c5, rfl⟩ := hr'.shape
      clear hr' hg' hat' hob' hbw hpr'
      go_wp2_with fail
      go_roundw
      case rel => exact ⟨k + 1, by omega, by go_num, HR'.out, HPR'.out, HOB'.out, HSW.out, HBW.out⟩
      case measure => first | (simp [intOf]; done) | (simp [intOf]; omega)
    · obtain rfl : k = n := by omega
      have HF : Hid (xs.take (k * 2) = xs) := Lib.hid (List.take_of_length_le (by omega))
      have HR' := Lib.hid hrow
      have HBW := Lib.hid (HWB.out.trans (hb.mono HWB.out.size))
      clear hrow hpr hob hb hsz
      go_wp2_with fail
      go_ret2
      exact ⟨_, rfl, by have := HR'.out; rw [HF.out] at this; exact this, HBW.out⟩
end Go.Proofs.Ytahnknbggacndaa
