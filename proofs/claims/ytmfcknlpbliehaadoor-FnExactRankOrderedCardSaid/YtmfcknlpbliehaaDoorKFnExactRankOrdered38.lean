/- Pack 38 of what FnExactRankOrdered needs: RkS, WFnExactRankOrdered. -/
import Derived.Test.YtmfcknlpbliehaaDoorKFnExactRankOrdered37
/- The model's RankOrdered. -/
namespace Go.Proofs.YtmfcknlpbliehaaDoor
open Go.RowKit
set_option linter.unusedVariables false
/-- what stands at a round -/
structure RkAt (s : ByteArray) (F : Nat → Int) (w : World) (gt gc gr cr : Nat) (k : Nat) (wr : World) : Prop where
  r : IRow wr w.heap.size (.slice (some ⟨gc, 0, none⟩) 4 4) (pL (vp s k))
  c4 : C4 (vp s k) gc 0 (gc + 1) (.slice none 0 0) wr
  q4 : C4 (vp s s.size) gr 0 (gr + 1) (.slice none 0 0) wr
  tb : IRow wr gt (.slice (some ⟨gt, 0, none⟩) 83521 83521) (fr F 83521)
  ne : gc ≠ gr ∧ gc < gt
  bl : Below w.heap.size w wr
theorem RkAt.below {s : ByteArray} {F : Nat → Int} {w : World} {gt gc gr cr k : Nat} {wr w2 : World} (h : RkAt s F w gt gc gr cr k wr) (hb : Below wr.heap.size wr w2) : RkAt s F w gt gc gr cr k w2 :=
  ⟨h.r.below hb, h.c4.next (St9.below hb), h.q4.next (St9.below hb), h.tb.below hb, h.ne, h.bl.trans (hb.mono h.bl.size)⟩
theorem RkAt.step {s : ByteArray} {F : Nat → Int} {w : World} {gt gc gr cr k : Nat} {wr : World} (h : RkAt s F w gt gc gr cr k wr) (hc : cd s k < 4) : RkAt s F w gt gc gr cr (k + 1) (wr.setCell ⟨gc, cd s k, none⟩ (.int .i64 (((vp s k (cd s k) : Nat) : Int) + 1))) := by
  have hr := h.r.set (cd s k) (((vp s k (cd s k) : Nat) : Int) + 1)
  rw [pL_up (vp s k) hc, vp_up] at hr
  have hlt := h.r.lt
  have hne := h.ne
  have hq : ∀ j, (wr.setCell ⟨gc, cd s k, none⟩ (.int .i64 (((vp s k (cd s k) : Nat) : Int) + 1))).cell? ⟨gr, j, none⟩ = wr.cell? ⟨gr, j, none⟩ := fun j => World.cell?_setCell_other wr ⟨gc, cd s k, none⟩ ⟨gr, j, none⟩ _ (fun e => hne.1 (by injection e))
  have hq4 := h.q4
  refine ⟨hr.1, C4.of_row hr.1 (by simp [World.setCell]; exact hlt.2) (by omega) (by intro e; cases e), ⟨by simp [World.setCell]; exact hq4.lt, hq4.ne, hq4.ow, (hq _).trans hq4.c0, (hq _).trans hq4.c1, (hq _).trans hq4.c2, (hq _).trans hq4.c3⟩, ?_, hne, ?_⟩
  · refine h.tb.apart hr.2 (fun j hj e => ?_)
    have := (h.tb.blk j hj).1
    injection e with e
    omega
  · exact h.bl.grown hr.2 h.bl.size (fun j hj => by injection hj with hj; omega)
set_option maxRecDepth 100000 in
set_option maxHeartbeats 8000000 in
theorem specRankOrdered_ret (s : ByteArray) (w : World) (hs : s.size ≤ maxLen) : Calls Tryd.prog 5 #[.string s] w (Ret w (.tuple #[.int .i64 (rkV s), .bool (oB s)])) := by
  obtain ⟨i0, hi0, hz0, hz1, hz2⟩ := info_parts intInfo
  rcases Bool.eq_false_or_eq_true (votB s) with hv | hv
  · have HG : Hid (∀ w, Calls Tryd.prog 12 #[.string s] w fun e w' => e = .returned (.bool true) ∧ w = w') := Lib.hid fun w => by have := voGood_any s w hs; rwa [hv] at this
    have HF0 : Hid (∀ w, Calls Tryd.prog 13 #[.string s] w (Ret w (.int .i64 (foI s)))) := Lib.hid fun w => voFirst_any s w hv
    have h16 := ((votB_iff s).1 hv).1
    by_cases h0 : foTo s s.size = 0
    · have ho : oB s = true := by unfold oB; rw [hv, decide_eq_true h0]; rfl
      have e : foI s = -1 := by unfold foI; rw [if_pos h0]
      rw [e] at HF0
      have hrv : rkV s = ((rkS s s.size : Nat) : Int) := by unfold rkV; rw [if_pos ho]
      rw [ho, hrv]
      have HCD := Lib.hid (fun k (hk : k < s.size) => cd_at hv hk)
      have HVC : Hid (∀ w, Calls Tryd.prog 14 #[.string s] w (CntNew s w)) := Lib.hid fun w => voCounts_any s w hv
      have HSM := Lib.hid (vp_sm ho)
      have HR16 := Lib.hid (vp_tot ho)
      have HOK : Hid (∀ k, k ≤ s.size → Ok (vp s s.size) (vp s k)) := Lib.hid fun k hk => vp_ok ho hk
      have HBD : Hid (∀ k, k ≤ s.size → rkS s k ≤ 17179869184 * k) := Lib.hid fun k hk => rkS_bd ho k hk
      clear hv h0 ho e hrv hs
      go_enter Tryd.func5, Tryd.ntmps5
      go_wp2_with (first
        | (go_at_call 12; refine (HG.out _).mono ?_; rintro e w' ⟨rfl, rfl⟩)
        | (go_at_call 13; refine (HF0.out _).mono ?_; rintro e w1 ⟨rfl, hb1⟩)
        | (go_at_call 14; refine (HVC.out _).mono ?_; rintro e w2 ⟨v2, rfl, hr2, hb2⟩
           obtain ⟨gr, cr, rfl, hgr1, hgr2⟩ := hr2.form' (n := 4) rfl (by omega)
           have HB2 := Lib.hid (hb1.trans (hb2.mono hb1.size))
           have HR2 : Hid (IRow w2 w1.heap.size (.slice (some ⟨gr, 0, none⟩) 4 cr) (pL (vp s s.size))) := Lib.hid hr2
           have HGR : Hid (w.heap.size ≤ gr ∧ gr < w2.heap.size) := Lib.hid ⟨Nat.le_trans hb1.size hgr1, hgr2⟩
           have HCR := Lib.hid ((RInts.of_row hr2).room _ _ _ rfl)
           clear hr2 hb2)
        | (refine wpList_make_full _ rfl (.const (.int .i64 4)) (.const (.int .i64 4)) 33 rfl w2.heap.size 3 i0 (.int .i64 0) 1 Tryd.underlying33 hi0 hz0 hz1 .i64 .i64 _ _ 4 rfl rfl (by omega) (by omega) (by rw [hz2]; omega) (by unfold maxLen; omega) (Nat.le_refl _) ?_; intro w4 hown1 hgrow1
           have hB4 : Below w2.heap.size w2 w4 := (Below.refl _ _).grown hgrow1 (Nat.le_refl _) (by simp)
           have hrow4 : IRow w4 w2.heap.size (.slice (some ⟨w2.heap.size, 0, none⟩) 4 4) (pL (fun _ => 0)) := IRow.of_own hown1 rfl (by rw [madeOne _ rfl]; simp [pL])
           have HB4 : Hid (Below w.heap.size w w4) := Lib.hid (HB2.out.trans (hB4.mono HB2.out.size))
           have HRW4 := Lib.hid hrow4
           have HQ4 : Hid (C4 (vp s s.size) gr 0 (gr + 1) (.slice none 0 0) w4) := Lib.hid ((C4.of_row HR2.out HGR.out.2 (by omega) (by intro e; cases e)).next (St9.below hB4))
           clear hrow4 hown1 hB4 hgrow1)
        | (go_at_call 15; refine (voTable_any (vp s s.size) gr 0 cr w4 HSM.out HR16.out (HOK.out s.size (Nat.le_refl _)) (by have := HQ4.out; exact ⟨this.lt, by have := this.lt; omega, this.ow, this.c0, this.c1, this.c2, this.c3⟩)).mono ?_; rintro e w5 ⟨F, rfl, hT5, hb5, hF5⟩
           have HF := Lib.hid hF5
           have HST : Hid (RkAt s F w w4.heap.size w2.heap.size gr cr 0 w5) := Lib.hid (by
             have h1 := HRW4.out.below hb5
             have h2 := HRW4.out.lt
             have h3 := HB2.out.size
             have h4 := HGR.out
             have h5 := hb5.size
             exact ⟨h1.mono h3, C4.of_row h1 (by omega) (by omega) (by intro e; cases e), HQ4.out.next (St9.below hb5), hT5, ⟨by omega, by omega⟩, HB4.out.trans (hb5.mono HB4.out.size)⟩)
           clear hT5 hb5 hF5))
      clear HG HF0 HVC HQ4 HB4 HRW4 HR2 HB2
      obtain ⟨gt, hgt⟩ : ∃ gt, w4.heap.size = gt := ⟨_, rfl⟩
      rw [hgt] at HST ⊢
      clear hgt
      obtain ⟨gc, hgc⟩ : ∃ gc, w2.heap.size = gc := ⟨_, rfl⟩
      rw [hgc] at HST ⊢
      clear hgc hb1
      go_loopw [7, 8] (fun rk iv wr => ∃ k : Nat, k ≤ s.size ∧ iv = .int .i64 (k : Int) ∧ rk = .int .i64 ((rkS s k : Nat) : Int) ∧ RkAt s F w gt gc gr cr k wr) (fun _ iv _ => s.size - (intOf iv).toNat)
      case atStart => exact ⟨0, Nat.zero_le _, rfl, rfl, HST.out⟩
      case round =>
        obtain ⟨k, hk, rfl, rfl, hat⟩ := hrel
        have HAT := Lib.hid hat
        have hbd := HBD.out k hk
        clear HST hat
        by_cases hlt : k < s.size
        case neg =>
          obtain rfl : k = s.size := by omega
          go_wp2
          go_ret2
          exact ⟨rfl, HAT.out.bl⟩
        obtain ⟨hbyte, hc4⟩ := HCD.out k hlt
        have HOKP := Lib.hid (HOK.out k hk)
        have HPS := Lib.hid (HOKP.out.sm9 HSM.out)
        have HRS : Hid (rkS s (k + 1) = rkS s k + byS (vp s s.size) (vp s k) (cd s k)) := Lib.hid rfl
        have HSB : Hid (∀ i, byS (vp s s.size) (vp s k) i ≤ 4294967296 * i) := Lib.hid fun i => byS_bd HR16.out i
        have HFV : Hid (∀ i, i < 4 → ¬ no (vp s s.size) (vp s k) i → F (cod (up (vp s k) i)) = ((W (vp s s.size) (up (vp s k) i) : Nat) : Int) ∧ sm (up (vp s k) i)) := Lib.hid fun i hi hno => ⟨HF.out _ (HOKP.out.up hi hno), (HOKP.out.up hi hno).sm9 HSM.out⟩
        have i9 : IntKind.u8.wrap (97 + ((cd s k : Nat) : Int) - 97) = ((cd s k : Nat) : Int) := by rw [show 97 + ((cd s k : Nat) : Int) - 97 = ((cd s k : Nat) : Int) by omega]; exact IntWalk.u8_in _ (by omega)
        have HSTEP : Hid (∀ wr, RkAt s F w gt gc gr cr k wr → RkAt s F w gt gc gr cr (k + 1) (wr.setCell ⟨gc, cd s k, none⟩ (.int .i64 (((vp s k (cd s k) : Nat) : Int) + 1)))) := Lib.hid fun wr h => h.step hc4
        clear HCD HOK HF HBD
        generalize cd s k = c0 at *
        go_wp2
        clear i9
        go_loopw [7, 10] (fun rk iv wr => ∃ i : Nat, i ≤ c0 ∧ iv = .int .i64 (i : Int) ∧ rk = .int .i64 ((rkS s k + byS (vp s s.size) (vp s k) i : Nat) : Int) ∧ RkAt s F w gt gc gr cr k wr) (fun _ iv _ => 4 - (intOf iv).toNat)
        case atStart => exact ⟨0, Nat.zero_le _, rfl, rfl, HAT.out⟩
        case round =>
          obtain ⟨i, hi, rfl, rfl, hat⟩ := hrel
          have HAQ := Lib.hid hat
          clear hat HAT
          have HCQ := Lib.hid HAQ.out.c4
          by_cases hlt2 : i < c0
          case neg =>
            obtain rfl : i = c0 := by omega
            have hc := HAQ.out.c4.cell hc4
            rw [Nat.zero_add] at hc
            have hf := HAQ.out.r.free i
            have hlt9 := HAQ.out.r.lt
            have hp16 := HPS.out i hc4
            clear HSB HFV
            go_wp2
            go_roundw
            case rel => exact ⟨k + 1, by omega, by go_num, by rw [HRS.out], HSTEP.out _ HAQ.out⟩
            first | (simp [intOf]; done) | (simp [intOf]; omega)
          have hi4 : i < 4 := by omega
          have hs1 := HSB.out (i + 1)
          have hbd2 : rkS s k + byS (vp s s.size) (vp s k) (i + 1) ≤ 17179869184 * 17 := by
            have : 4294967296 * (i + 1) ≤ 4294967296 * 4 := Nat.mul_le_mul_left _ (by omega)
            have : 17179869184 * k ≤ 17179869184 * 16 := Nat.mul_le_mul_left _ (by omega)
            omega
          have a0 := HAQ.out.c4.cell hi4
          have b0 := HAQ.out.q4.cell hi4
          rw [Nat.zero_add] at a0 b0
          have HP9 := Lib.hid (HPS.out i hi4)
          clear hs1 HSB HSTEP HRS hbd
          generalize vp s s.size = R at *
          obtain ⟨P, hP⟩ : ∃ P, vp s k = P := ⟨_, rfl⟩
          have HAQ2 := HAQ
          rw [hP] at a0 hbd2 HP9 HCQ HOKP HFV ⊢
          by_cases hk0 : i = 0
          · subst hk0
            by_cases hA : P 0 = R 0
            · have HBY : Hid (byS R P (0 + 1) = byS R P 0) := Lib.hid (by show byS R P 0 + byW R P 0 = _; rw [byW_no (.inl hA), Nat.add_zero])
              have q1 : decide (P 0 < R 0) = false := decide_eq_false (by omega)
              clear hA
              go_wp2_with fail
              go_quiet (fail)
              go_wp2
              go_roundw
              case rel => exact ⟨0 + 1, by omega, by go_num, by rw [HBY.out], by first | exact HAQ.out | exact HAQ.out.below (below_drewN (Below.refl _ _) _)⟩
              first | (simp [intOf]; done) | (simp [intOf]; omega)
            · have hle := HOKP.out.le 0 (by omega)
              have hno : ¬ no R P 0 := fun hx => hx.elim hA (fun hy => absurd hy.1 (by omega))
              have HPK := HP9.out
              have HBY : Hid (byS R P (0 + 1) = byS R P 0 + W R (up P 0)) := Lib.hid (by show byS R P 0 + byW R P 0 = _; rw [byW_go hno])
              rw [HBY.out] at hbd2
              obtain ⟨hfv, hus⟩ := HFV.out 0 (by omega) hno
              have HFW := Lib.hid hfv
              have HUP : Hid ((pL P).set 0 (((P 0 : Nat) : Int) + 1) = pL (up P 0)) := Lib.hid (pL_up P (by omega))
              have HUS := Lib.hid hus
              have HUL : Hid (cod (up P 0) < 83521) := Lib.hid (cod_lt hus)
              have HPA : Hid ((pL P).getD 0 0 = ((P 0 : Nat) : Int)) := Lib.hid (pL_at P (by omega))
              have HPL : Hid (0 < (pL P).length) := Lib.hid (by simp [pL]; try omega)
              have HTB := Lib.hid HAQ.out.tb
              have q1 : P 0 < R 0 := by omega
              clear hus hfv hA hno hle
              generalize rkS s k = S9 at *
              generalize byS R P 0 = S0 at *
              generalize W R (up P 0) = W0 at *
              go_wp2_with fail
              go_quiet (fail)
              go_wp2_with (first
                | (go_at_call 16; refine ((HCQ.out.drewN _).own _).mono ?_; rintro e w7 ⟨v7, rfl, hr7, hb7⟩
                   obtain ⟨g5, c5, rfl, hg5, hg6⟩ := hr7.form' (n := 4) rfl (by omega)
                   have hc : w7.cell? ⟨g5, 0, none⟩ = some (.int .i64 ((P 0 : Nat) : Int)) := (hr7.cell HPL.out).trans (by rw [HPA.out])
                   have hf := hr7.free 0
                   have hst := (hr7.set 0 (((P 0 : Nat) : Int) + 1)).1
                   rw [HUP.out] at hst
                   have HC5 : Hid (C4 (up P 0) g5 0 (g5 + 1) (.slice none 0 0) (w7.setCell ⟨g5, 0, none⟩ (.int .i64 (((P 0 : Nat) : Int) + 1)))) := Lib.hid (C4.of_row hst (by simp [World.setCell]; exact hg6) (by omega) (by intro e; cases e))
                   have HB7 := Lib.hid (hb7.setCell (p := ⟨g5, 0, none⟩) hg5 (.int .i64 (((P 0 : Nat) : Int) + 1)))
                   clear hst hr7 hb7)
                | (go_at_call 17; refine (voCode_any (up P 0) _ _ _ _ _ _ HUS.out HC5.out).mono ?_; rintro e w8 ⟨rfl, hb8⟩
                   have HB8 := Lib.hid (HB7.out.trans (hb8.mono HB7.out.size))
                   have hc9 := ((HTB.out.drewN _).below HB8.out).cell (j := cod (up P 0)) (by rw [fr_length]; exact HUL.out)
                   rw [fr_get _ _ _ HUL.out, HFW.out] at hc9
                   have hul := HUL.out
                   clear hb8))
              go_roundw
              case rel => exact ⟨0 + 1, by omega, by go_num, by rw [HBY.out]; go_num, HAQ.out.below ((below_drewN (Below.refl _ _) _).trans HB8.out)⟩
              first | (simp [intOf]; done) | (simp [intOf]; omega)
          · obtain ⟨j, hj⟩ : ∃ j, i = j + 1 := ⟨i - 1, by omega⟩
            have hj1 : i - 1 = j := by omega
            by_cases hA : P i = R i
            · have HBY : Hid (byS R P (i + 1) = byS R P i) := Lib.hid (by show byS R P i + byW R P i = _; rw [byW_no (.inl hA), Nat.add_zero])
              have q1 : decide (P i < R i) = false := decide_eq_false (by omega)
              clear hA hj hj1
              go_wp2_with fail
              go_quiet (fail)
              go_wp2
              go_roundw
              case rel => exact ⟨i + 1, by omega, by go_num, by rw [HBY.out], by first | exact HAQ.out | exact HAQ.out.below (below_drewN (Below.refl _ _) _)⟩
              first | (simp [intOf]; done) | (simp [intOf]; omega)
            · have hle := HOKP.out.le i (by omega)
              have a1 := HCQ.out.cell (show j < 4 by omega)
              rw [Nat.zero_add] at a1
              by_cases hB : P i = P j
              · have HBY : Hid (byS R P (i + 1) = byS R P i) := Lib.hid (by show byS R P i + byW R P i = _; rw [byW_no (.inr ⟨by omega, by rw [hj1]; exact hB⟩), Nat.add_zero])
                have i0 : (((i : Nat) : Int) == 0) = false := by simp; omega
                have q1 : P i < R i := by omega
                have q3 : decide (P i < P j) = false := decide_eq_false (by omega)
                have i2 : (j : Int) < 4 := by omega
                have i1 : IntKind.i64.wrap (((i : Nat) : Int) - 1) = (j : Int) := by rw [IntWalk.i64_in _ (by omega)]; omega
                clear hA hB hle hj hj1
                go_wp2_with fail
                go_quiet (fail)
                clear i1
                go_wp2
                go_roundw
                case rel => exact ⟨i + 1, by omega, by go_num, by rw [HBY.out], by first | exact HAQ.out | exact HAQ.out.below (below_drewN (Below.refl _ _) _)⟩
                first | (simp [intOf]; done) | (simp [intOf]; omega)
              · have hfl := HOKP.out.fall j (by omega)
                rw [← hj] at hfl
                have hno : ¬ no R P i := fun hx => hx.elim hA (fun hy => hB (by rw [← hj1]; exact hy.2))
                have HPK := HP9.out
                have HBY : Hid (byS R P (i + 1) = byS R P i + W R (up P i)) := Lib.hid (by show byS R P i + byW R P i = _; rw [byW_go hno])
                rw [HBY.out] at hbd2
                obtain ⟨hfv, hus⟩ := HFV.out i (by omega) hno
                have HFW := Lib.hid hfv
                have HUP : Hid ((pL P).set i (((P i : Nat) : Int) + 1) = pL (up P i)) := Lib.hid (pL_up P (by omega))
                have HUS := Lib.hid hus
                have HUL : Hid (cod (up P i) < 83521) := Lib.hid (cod_lt hus)
                have HPA : Hid ((pL P).getD i 0 = ((P i : Nat) : Int)) := Lib.hid (pL_at P (by omega))
                have HPL : Hid (i < (pL P).length) := Lib.hid (by simp [pL]; try omega)
                have HTB := Lib.hid HAQ.out.tb
                have i0 : (((i : Nat) : Int) == 0) = false := by simp; omega
                have q1 : P i < R i := by omega
                have q2 : P i < P j := by omega
                have i2 : (j : Int) < 4 := by omega
                have i1 : IntKind.i64.wrap (((i : Nat) : Int) - 1) = (j : Int) := by rw [IntWalk.i64_in _ (by omega)]; omega
                clear hus hfv hA hno hle hB hfl hj hj1
                generalize rkS s k = S9 at *
                generalize byS R P i = S0 at *
                generalize W R (up P i) = W0 at *
                go_wp2_with fail
                go_quiet (fail)
                clear i1
                go_wp2_with (first
                  | (go_at_call 16; refine ((HCQ.out.drewN _).own _).mono ?_; rintro e w7 ⟨v7, rfl, hr7, hb7⟩
                     obtain ⟨g5, c5, rfl, hg5, hg6⟩ := hr7.form' (n := 4) rfl (by omega)
                     have hc : w7.cell? ⟨g5, i, none⟩ = some (.int .i64 ((P i : Nat) : Int)) := (hr7.cell HPL.out).trans (by rw [HPA.out])
                     have hf := hr7.free i
                     have hst := (hr7.set i (((P i : Nat) : Int) + 1)).1
                     rw [HUP.out] at hst
                     have HC5 : Hid (C4 (up P i) g5 0 (g5 + 1) (.slice none 0 0) (w7.setCell ⟨g5, i, none⟩ (.int .i64 (((P i : Nat) : Int) + 1)))) := Lib.hid (C4.of_row hst (by simp [World.setCell]; exact hg6) (by omega) (by intro e; cases e))
                     have HB7 := Lib.hid (hb7.setCell (p := ⟨g5, i, none⟩) hg5 (.int .i64 (((P i : Nat) : Int) + 1)))
                     clear hst hr7 hb7)
                  | (go_at_call 17; refine (voCode_any (up P i) _ _ _ _ _ _ HUS.out HC5.out).mono ?_; rintro e w8 ⟨rfl, hb8⟩
                     have HB8 := Lib.hid (HB7.out.trans (hb8.mono HB7.out.size))
                     have hc9 := ((HTB.out.drewN _).below HB8.out).cell (j := cod (up P i)) (by rw [fr_length]; exact HUL.out)
                     rw [fr_get _ _ _ HUL.out, HFW.out] at hc9
                     have hul := HUL.out
                     clear hb8))
                go_roundw
                case rel => exact ⟨i + 1, by omega, by go_num, by rw [HBY.out]; go_num, HAQ.out.below ((below_drewN (Below.refl _ _) _).trans HB8.out)⟩
                first | (simp [intOf]; done) | (simp [intOf]; omega)
    · have hob : oB s = false := by unfold oB; rw [hv, decide_eq_false h0]; rfl
      have hrv : rkV s = 0 := by unfold rkV; rw [if_neg (by rw [hob]; decide)]
      have hge : 0 ≤ foI s := by unfold foI; rw [if_neg h0]; omega
      rw [hob, hrv]
      clear hv h0 hob hrv hs
      generalize foI s = f at *
      go_enter Tryd.func5, Tryd.ntmps5
      go_wp2_with (first | (go_at_call 12; refine (HG.out _).mono ?_; rintro e w' ⟨rfl, rfl⟩) | (go_at_call 13; refine (HF0.out _).mono ?_; rintro e w1 ⟨rfl, hb1⟩))
      go_ret2
      exact ⟨rfl, hb1⟩
  · have HG : Hid (∀ w, Calls Tryd.prog 12 #[.string s] w fun e w' => e = .returned (.bool false) ∧ w = w') := Lib.hid fun w => by have := voGood_any s w hs; rwa [hv] at this
    have hob : oB s = false := by unfold oB; rw [hv]; rfl
    have hrv : rkV s = 0 := by unfold rkV; rw [if_neg (by rw [hob]; decide)]
    rw [hob, hrv]
    clear hv hob hrv hs
    go_enter Tryd.func5, Tryd.ntmps5
    go_wp2_with (go_at_call 12; refine (HG.out _).mono ?_; rintro e w' ⟨rfl, rfl⟩)
    go_ret2
    exact ⟨rfl, Below.refl _ _⟩
end Go.Proofs.YtmfcknlpbliehaaDoor

/- FnExactRankOrdered for every argument. -/
namespace Go.Proofs.YtmfcknlpbliehaaDoor
open Go.RowKit
set_option linter.unusedVariables false
theorem wFnExactRankOrdered (a0 : ByteArray) (w : World) (hs0 : a0.size ≤ maxLen) :
    Calls Tryd.prog 3 #[.string a0] w fun e w' => e = .returned (.bool true) ∧ Below w.heap.size w w' := by
  by_cases hz : 1048576 < a0.size
  · exact wFnExactRankOrdered_big a0 w hz
  · have hz0 : ¬ 1048576 < a0.size := by omega
    exact wFnExactRankOrdered_main a0 (oB a0) (rkV a0) (Lib.hid fun w => specRankOrdered_ret a0 w hs0) (Lib.hid fun w => rankOrdered_ret a0 w hs0) w hz0
end Go.Proofs.YtmfcknlpbliehaaDoor
