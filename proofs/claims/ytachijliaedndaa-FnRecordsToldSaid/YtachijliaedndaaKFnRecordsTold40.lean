/- Pack 40 of what FnRecordsTold needs: RrS, Highs. -/
import Derived.Test.YtachijliaedndaaKFnRecordsTold39
/- The model's CountByRecords: a table by what is wanting to a record and by records. -/
namespace Go.Proofs.Ytachijliaedndaa
open Go.RowKit
set_option linter.unusedVariables false
theorem Tab.mono {w : World} {B g n m r : Nat} {blk : Nat → Nat} {f : Nat → Nat → Int} (h : Tab w B g n m blk r f) {B' : Nat} (hB : B' ≤ B) : Tab w B' g n m blk r f :=
  ⟨Nat.le_trans hB h.outB, h.outL, h.made, h.yet, h.outF, fun j hj => ⟨Nat.le_trans hB (h.blkB j hj).1, (h.blkB j hj).2⟩, h.apart, h.cell, h.free⟩
theorem Tab.other {w : World} {B g n m r : Nat} {blk : Nat → Nat} {f : Nat → Nat → Int} (h : Tab w B g n m blk r f) {p : Addr} (hp : p.block < B) (v : Value) : Tab (w.setCell p v) B g n m blk r f := by
  have ne1 : ∀ j, p ≠ ⟨g, j, none⟩ := fun j e => by have h1 := h.outB; rw [e] at hp; exact absurd (show g < B from hp) (by omega)
  have ne2 : ∀ j, j < r → ∀ c, p ≠ ⟨blk j, c, none⟩ := fun j hj c e => by have h1 := (h.blkB j hj).1; rw [e] at hp; exact absurd (show blk j < B from hp) (by omega)
  exact ⟨h.outB, by simpa [World.setCell] using h.outL, fun j hj => by rw [World.cell?_setCell_other w _ _ _ (ne1 j)]; exact h.made j hj, fun j hj hn => by rw [World.cell?_setCell_other w _ _ _ (ne1 j)]; exact h.yet j hj hn,
    fun j => by rw [World.frozen?_setCell]; exact h.outF j, fun j hj => ⟨(h.blkB j hj).1, by simpa [World.setCell] using (h.blkB j hj).2.1, (h.blkB j hj).2.2⟩, h.apart,
    fun j c hj hc => by rw [World.cell?_setCell_other w _ _ _ (ne2 j hj c)]; exact h.cell j c hj hc, fun j c hj => by rw [World.frozen?_setCell]; exact h.free j c hj⟩
theorem rr_start (j c : Nat) : (if j = 0 ∧ c = 0 then (1 : Int) else 0) = rcD 0 (j + c) := by
  rw [rcD_zero]
  by_cases h : j = 0 ∧ c = 0
  · rw [if_pos h, if_pos (by omega)]
  · rw [if_neg h, if_neg (by omega)]
set_option maxRecDepth 100000 in
set_option maxHeartbeats 4000000 in
theorem specByRecords_yes (m : Nat) (hm : m ≤ 15) (hpr : prB m = true) (w : World) : Calls Try.prog 63 #[.int .i64 (m : Int)] w (IntsRet w true (fr (rrF m) (m + 1))) := by
  obtain ⟨i0, hi, hz0, hz1, hz2⟩ := info_parts rowInfo
  obtain ⟨j0, hj, hk0, hk1, hk2⟩ := info_parts intInfo
  have HG := Lib.hid (reGood_any (m : Int))
  rw [hpr] at HG
  clear hpr
  go_enter Try.func63, Try.ntmps63
  go_wp2_with (first | (go_at_call 193; refine (HG.out _).mono ?_; rintro e wx ⟨rfl, rfl⟩) | (refine wpList_make_full _ rfl (.tmp 22) (.tmp 22) 30 rfl w.heap.size 3 j0 (.int .i64 0) 1 Try.underlying30 hj hk0 hk1 .i64 .i64 _ _ (m + 1) rfl rfl (by omega) (by omega) (by rw [hk2]; omega) (by unfold maxLen; omega) (Nat.le_refl _) ?_; intro w1 hown1 hgrow1; have hrowO : IRow w1 w.heap.size (.slice (some ⟨w.heap.size, 0, none⟩) (m + 1) (m + 1)) (List.replicate (m + 1) 0) := (IRow.of_own hown1 (by simp) (by rw [madeOne _ rfl]; simp)); have hbO : Below w.heap.size w w1 := ((Below.refl _ _).grown hgrow1 (Nat.le_refl _) (by simp)); clear hown1 hgrow1) | (refine wpList_make_full _ rfl (.tmp 25) (.tmp 25) 128 rfl w1.heap.size 30 i0 (.slice none 0 0) 1 Try.underlying128 hi hz0 hz1 .i64 .i64 _ _ (m + 1) rfl rfl (by omega) (by omega) (by rw [hz2]; omega) (by unfold maxLen; omega) (Nat.le_refl _) ?_; intro w2 hown0 hgrow0))
  have hT0 : Tab w2 w1.heap.size w1.heap.size (m + 1) (m + 1) (fun _ => 0) 0 (fun _ _ => 0) := Tab.start (Nat.le_refl _) (by rw [madeOne _ rfl] at hown0; exact hown0)
  have hb0 : Below w1.heap.size w1 w2 := (Below.refl _ _).grown hgrow0 (Nat.le_refl _) (by simp)
  have HT0 := Lib.hid hT0
  have HO := Lib.hid hrowO
  have HBO := Lib.hid hbO
  have hwO := hrowO.lt
  clear hown0 hgrow0 hT0 hrowO hbO
  go_loopw [29] (fun jj wr => ∃ (J : Nat) (blk : Nat → Nat), J ≤ m + 1 ∧ jj = .int .i64 (J : Int) ∧ Hid (Tab wr w1.heap.size w1.heap.size (m + 1) (m + 1) blk J (fun _ _ => 0)) ∧ Below w1.heap.size w1 wr) (fun jj _ => m + 1 - (intOf jj).toNat)
  case atStart => exact ⟨0, _, by omega, rfl, HT0, hb0⟩
  case round =>
    obtain ⟨J, blk, hJ, rfl, HT, hb⟩ := hrel
    clear HT0 hb0
    have hsz := hb.size
    by_cases hlt : J < m + 1
    · have i1 : (J : Int) < (m : Int) + 1 := by omega
      go_wp2_with (refine wpList_make_full _ rfl (.tmp 35) (.tmp 35) 30 rfl wr.heap.size 3 j0 (.int .i64 0) 1 Try.underlying30 hj hk0 hk1 .i64 .i64 _ _ (m + 1) rfl rfl (by omega) (by omega) (by rw [hk2]; omega) (by unfold maxLen; omega) (Nat.le_refl _) ?_; intro w9 hown1 hgrow1; have hrow1 : IRow w9 wr.heap.size (.slice (some ⟨wr.heap.size, 0, none⟩) (m + 1) (m + 1)) (List.replicate (m + 1) 0) := (IRow.of_own hown1 (by simp) (by rw [madeOne _ rfl]; simp)); have hb9 : Below wr.heap.size wr w9 := ((Below.refl _ _).grown hgrow1 (Nat.le_refl _) (by simp)); have HP := Lib.hid ((HT.out.push (by omega) hsz hb9 hrow1).congr (fun j c _ _ => (by split <;> rfl : (if j = J then (0 : Int) else 0) = 0))); have hy := (HT.out.below hb9).yet J (Nat.le_refl _) (by omega); have hof := (HT.out.below hb9).outF J; clear hown1 hgrow1 hrow1)
      have hb2 : Below w1.heap.size w1 (w9.setCell ⟨w1.heap.size, J, none⟩ (.slice (some ⟨wr.heap.size, 0, none⟩) (m + 1) (m + 1))) := (hb.trans (hb9.mono hsz)).setCell (Nat.le_refl _) _
      go_roundw
      case rel => exact ⟨J + 1, _, by omega, by go_num, HP, hb2⟩
      case measure => first | (simp [intOf]; done) | (simp [intOf]; omega)
    · have HK : Hid (J = m + 1) := by unfold Hid; omega
      have hT := HT.out
      rw [HK.out] at hT
      have e1 := hT.made 0 (by omega)
      have e2 := hT.cell 0 0 (by omega) (by omega)
      have f2 := hT.free 0 0 (by omega)
      have i2 : (0 : Int) < (m : Int) + 1 := by omega
      have HS := Lib.hid ((hT.set 0 0 1 (by omega) (by omega)).congr (fun j c _ _ => rr_start j c))
      have hbk := (hT.blkB 0 (by omega)).1
      clear hT
      have hjb : decide ((J : Int) < (m : Int) + 1) = false := decide_eq_false (by omega)
      go_wp2_with fail
      have hb3 : Below w1.heap.size w1 (wr.setCell ⟨blk 0, 0, none⟩ (.int .i64 1)) := hb.setCell hbk _
      generalize wr.setCell ⟨blk 0, 0, none⟩ (.int .i64 1) = wx at *
      clear e1 e2 f2 hb HT hsz hbk
      go_loopw [5, 7] (fun v kk wr => ∃ (k g : Nat) (bl : Nat → Nat), k ≤ m ∧ kk = .int .i64 (k : Int) ∧ v = .slice (some ⟨g, 0, none⟩) (m + 1) (m + 1) ∧ Hid (Tab wr w1.heap.size g (m + 1) (m + 1) bl (m + 1) (fun j c => rcD k (j + c))) ∧ Below w1.heap.size w1 wr) (fun _ kk _ => m - (intOf kk).toNat)
      case atStart => exact ⟨0, _, _, by omega, rfl, rfl, HS, hb3⟩
      case round =>
        obtain ⟨k, g, bl, hk, rfl, rfl, HTo, hbo⟩ := hrel
        clear HS hb3
        have hszo := hbo.size
        by_cases hltk : k < m
        · obtain ⟨wo, rfl⟩ : ∃ wo : World, wo = wr := ⟨_, rfl⟩
          have ik : (k : Int) < (m : Int) := by omega
          go_wp2_with (refine wpList_make_full _ rfl (.tmp 49) (.tmp 49) 128 rfl wo.heap.size 30 i0 (.slice none 0 0) 1 Try.underlying128 hi hz0 hz1 .i64 .i64 _ _ (m + 1) rfl rfl (by omega) (by omega) (by rw [hz2]; omega) (by unfold maxLen; omega) (Nat.le_refl _) ?_; intro w3 hown0 hgrow0)
          have hT1 : Tab w3 wo.heap.size wo.heap.size (m + 1) (m + 1) (fun _ => 0) 0 (fun _ _ => 0) := Tab.start (Nat.le_refl _) (by rw [madeOne _ rfl] at hown0; exact hown0)
          have hb1 : Below wo.heap.size wo w3 := (Below.refl _ _).grown hgrow0 (Nat.le_refl _) (by simp)
          have HT1 := Lib.hid hT1
          clear hown0 hgrow0 hT1
          go_loopw [53] (fun jj wr => ∃ (J : Nat) (blk : Nat → Nat), J ≤ m + 1 ∧ jj = .int .i64 (J : Int) ∧ Hid (Tab wr wo.heap.size wo.heap.size (m + 1) (m + 1) blk J (fun _ _ => 0)) ∧ Below wo.heap.size wo wr) (fun jj _ => m + 1 - (intOf jj).toNat)
          case atStart => exact ⟨0, _, by omega, rfl, HT1, hb1⟩
          case round =>
            obtain ⟨J, bn, hJ, rfl, HT, hb⟩ := hrel
            clear HT1 hb1
            have hsz := hb.size
            by_cases hltJ : J < m + 1
            · have i1 : (J : Int) < (m : Int) + 1 := by omega
              go_wp2_with (refine wpList_make_full _ rfl (.tmp 59) (.tmp 59) 30 rfl wr.heap.size 3 j0 (.int .i64 0) 1 Try.underlying30 hj hk0 hk1 .i64 .i64 _ _ (m + 1) rfl rfl (by omega) (by omega) (by rw [hk2]; omega) (by unfold maxLen; omega) (Nat.le_refl _) ?_; intro w9 hown1 hgrow1; have hrow1 : IRow w9 wr.heap.size (.slice (some ⟨wr.heap.size, 0, none⟩) (m + 1) (m + 1)) (List.replicate (m + 1) 0) := (IRow.of_own hown1 (by simp) (by rw [madeOne _ rfl]; simp)); have hb9 : Below wr.heap.size wr w9 := ((Below.refl _ _).grown hgrow1 (Nat.le_refl _) (by simp)); have HP := Lib.hid ((HT.out.push (by omega) hsz hb9 hrow1).congr (fun j c _ _ => (by split <;> rfl : (if j = J then (0 : Int) else 0) = 0))); have hy := (HT.out.below hb9).yet J (Nat.le_refl _) (by omega); have hof := (HT.out.below hb9).outF J; clear hown1 hgrow1 hrow1)
              have hb2 : Below wo.heap.size wo (w9.setCell ⟨wo.heap.size, J, none⟩ (.slice (some ⟨wr.heap.size, 0, none⟩) (m + 1) (m + 1))) := (hb.trans (hb9.mono hsz)).setCell (Nat.le_refl _) _
              go_roundw
              case rel => exact ⟨J + 1, _, by omega, by go_num, HP, hb2⟩
              case measure => first | (simp [intOf]; done) | (simp [intOf]; omega)
            · have HK2 : Hid (J = m + 1) := by unfold Hid; omega
              have hT := HT.out
              rw [HK2.out] at hT
              have HN := Lib.hid (hT.congr (f' := rcT k 0 0) (fun j c _ _ => (rcT_zero k j c).symm))
              have hjb2 : decide ((J : Int) < (m : Int) + 1) = false := decide_eq_false (by omega)
              clear hT HT
              go_wp2_with fail
              go_loopw [65] (fun gg wr => ∃ (G : Nat), G ≤ m + 1 ∧ gg = .int .i64 (G : Int) ∧ Hid (Tab wr wo.heap.size wo.heap.size (m + 1) (m + 1) bn (m + 1) (rcT k G 0)) ∧ Below wo.heap.size wo wr) (fun gg _ => m + 1 - (intOf gg).toNat)
              case atStart => exact ⟨0, by omega, rfl, HN, hb⟩
              case round =>
                obtain ⟨G, hG, rfl, HTG, hbG⟩ := hrel
                clear HN hb hsz
                by_cases hltG : G < m + 1
                · have hold := HTo.out.below hbG
                  have e1 := hold.made G (by omega)
                  have i1 : (G : Int) < (m : Int) + 1 := by omega
                  clear hold
                  go_wp2_with fail
                  go_loopw [72] (fun rr wr => ∃ (R : Nat), R ≤ m + 1 ∧ rr = .int .i64 (R : Int) ∧ Hid (Tab wr wo.heap.size wo.heap.size (m + 1) (m + 1) bn (m + 1) (rcT k G R)) ∧ Below wo.heap.size wo wr) (fun rr _ => m + 1 - (intOf rr).toNat)
                  case atStart => exact ⟨0, by omega, rfl, HTG, hbG⟩
                  case round =>
                    obtain ⟨R, hR, rfl, HTR, hbR⟩ := hrel
                    clear HTG hbG e1
                    by_cases hltR : R < m + 1
                    · have hold := HTo.out.below hbR
                      have c0 := hold.cell G R (by omega) (by omega)
                      have i2 : (R : Int) < (m : Int) + 1 := by omega
                      clear hold
                      by_cases hx : rcD k (G + R) = 0
                      · have HS1 := Lib.hid (HTR.out.congr (fun j c _ _ => rcT_skip hx j c))
                        rw [hx] at c0
                        go_wp2_with fail
                        go_roundw
                        case rel => exact ⟨R + 1, by omega, by go_num, HS1, hbR⟩
                        case measure => first | (simp [intOf]; done) | (simp [intOf]; omega)
                      · have hlow : G + R ≤ k := by
                          by_cases hq : k < G + R
                          · exact absurd (rcD_far hq) hx
                          · omega
                        have qx : (rcD k (G + R) == 0) = false := beq_eq_false_iff_ne.2 hx
                        have xb := rcD_bd (show k ≤ 16 by omega) (G + R)
                        cases G with
                        | zero =>
                          have m1 := HTR.out.made 0 (by omega)
                          have d1 := HTR.out.cell 0 (R + 1) (by omega) (by omega)
                          have f1 := HTR.out.free 0 (R + 1) (by omega)
                          have hT1 := HTR.out.set 0 (R + 1) (rcT k 0 R 0 (R + 1) + rcD k R) (by omega) (by omega)
                          have m2 := hT1.made 1 (by omega)
                          have d2 := hT1.cell 1 R (by omega) (by omega)
                          rw [if_neg (by omega)] at d2
                          have f2 := hT1.free 1 R (by omega)
                          have HS1 := Lib.hid ((hT1.set 1 R (rcT k 0 R 1 R + rcD k R) (by omega) (by omega)).congr (fun j c _ _ => rcT_first k R j c))
                          have hk1 := (HTR.out.blkB 0 (by omega)).1
                          have hk2 := (HTR.out.blkB 1 (by omega)).1
                          have HB1 := Lib.hid ((hbR.setCell (p := ⟨bn 0, R + 1, none⟩) hk1 (.int .i64 (rcT k 0 R 0 (R + 1) + rcD k R))).setCell (p := ⟨bn 1, R, none⟩) hk2 (.int .i64 (rcT k 0 R 1 R + rcD k R)))
                          have b1 := rcT_bd (show k ≤ 16 by omega) 0 R 0 (R + 1)
                          have b2 := rcT_bd (show k ≤ 16 by omega) 0 R 1 R
                          have i3 : (R : Int) + 1 < (m : Int) + 1 := by omega
                          have i4 : (1 : Int) < (m : Int) + 1 := by omega
                          have i5 : (0 : Int) < (m : Int) + 1 := by omega
                          clear hT1 HTR hbR hk1 hk2
                          simp only [Nat.zero_add] at c0 qx xb hx
                          generalize rcT k 0 R 0 (R + 1) = x1 at *
                          generalize rcT k 0 R 1 R = x2 at *
                          generalize rcD k R = x at *
                          generalize bn 0 = bn0 at *
                          generalize bn 1 = bn1 at *
                          go_wp2_with fail
                          go_roundw
                          case rel => exact ⟨R + 1, by omega, by go_num, HS1, HB1.out⟩
                          case measure => first | (simp [intOf]; done) | (simp [intOf]; omega)
                        | succ G =>
                          have m1 := HTR.out.made G (by omega)
                          have d1 := HTR.out.cell G R (by omega) (by omega)
                          have f1 := HTR.out.free G R (by omega)
                          have hT1 := HTR.out.set G R (rcT k (G + 1) R G R + rcD k (G + 1 + R)) (by omega) (by omega)
                          have m2 := hT1.made (G + 1 + 1) (by omega)
                          have d2 := hT1.cell (G + 1 + 1) R (by omega) (by omega)
                          rw [if_neg (by omega)] at d2
                          have f2 := hT1.free (G + 1 + 1) R (by omega)
                          have HS1 := Lib.hid ((hT1.set (G + 1 + 1) R (rcT k (G + 1) R (G + 1 + 1) R + rcD k (G + 1 + R)) (by omega) (by omega)).congr (fun j c _ _ => rcT_more k G R j c))
                          have hk1 := (HTR.out.blkB G (by omega)).1
                          have hk2 := (HTR.out.blkB (G + 1 + 1) (by omega)).1
                          have HB1 := Lib.hid ((hbR.setCell (p := ⟨bn G, R, none⟩) hk1 (.int .i64 (rcT k (G + 1) R G R + rcD k (G + 1 + R)))).setCell (p := ⟨bn (G + 1 + 1), R, none⟩) hk2 (.int .i64 (rcT k (G + 1) R (G + 1 + 1) R + rcD k (G + 1 + R))))
                          have b1 := rcT_bd (show k ≤ 16 by omega) (G + 1) R G R
                          have b2 := rcT_bd (show k ≤ 16 by omega) (G + 1) R (G + 1 + 1) R
                          have i3 : (G : Int) + 1 + 1 < (m : Int) + 1 := by omega
                          have i4 : (G : Int) < (m : Int) + 1 := by omega
                          have i5 : ((G : Int) + 1 == 0) = false := beq_eq_false_iff_ne.2 (by omega)
                          clear hT1 HTR hbR hk1 hk2
                          generalize rcT k (G + 1) R G R = x1 at *
                          generalize rcT k (G + 1) R (G + 1 + 1) R = x2 at *
                          generalize rcD k (G + 1 + R) = x at *
                          generalize bn G = bn0 at *
                          generalize bn (G + 1 + 1) = bn1 at *
                          go_wp2_with fail
                          go_roundw
                          case rel => exact ⟨R + 1, by omega, by go_num, HS1, HB1.out⟩
                          case measure => first | (simp [intOf]; done) | (simp [intOf]; omega)
                    · have HK3 : Hid (R = m + 1) := by unfold Hid; omega
                      have hT := HTR.out
                      rw [HK3.out] at hT
                      have HN2 := Lib.hid (hT.congr (fun j c _ hc => rcT_row hc))
                      clear hT HTR
                      have hrb : decide ((R : Int) < (m : Int) + 1) = false := decide_eq_false (by omega)
                      go_wp2_with fail
                      go_roundw
                      case rel => exact ⟨G + 1, by omega, by go_num, HN2, hbR⟩
                      case measure => first | (simp [intOf]; done) | (simp [intOf]; omega)
                · have HK3 : Hid (G = m + 1) := by unfold Hid; omega
                  have hT := HTG.out
                  rw [HK3.out] at hT
                  have HN2 := Lib.hid ((hT.congr (fun j c hj hc => rcT_all hltk hj hc)).mono hszo)
                  have HB2 := Lib.hid (hbo.trans (hbG.mono hszo))
                  clear hT HTG
                  have hrb : decide ((G : Int) < (m : Int) + 1) = false := decide_eq_false (by omega)
                  go_wp2_with fail
                  go_roundw
                  case rel => exact ⟨k + 1, _, _, by omega, by go_num, rfl, HN2, HB2.out⟩
                  case measure => first | (simp [intOf]; done) | (simp [intOf]; omega)
        · have HK3 : Hid (k = m) := by unfold Hid; omega
          have hT := HTo.out
          rw [HK3.out] at hT
          have HTF := Lib.hid hT
          have HO2 : Hid (IRow wr w.heap.size (.slice (some ⟨w.heap.size, 0, none⟩) (m + 1) (m + 1)) (fr (rcO m 0 0) (m + 1))) := Lib.hid (by rw [← rcO_zero]; exact HO.out.below hbo)
          have HB2 := Lib.hid (HBO.out.trans (hbo.mono HBO.out.size))
          clear hT HTo hbo hszo
          have hrb : decide ((k : Int) < (m : Int)) = false := decide_eq_false (by omega)
          go_wp2_with fail
          go_loopw [118] (fun gg wq => ∃ (G : Nat), G ≤ m + 1 ∧ gg = .int .i64 (G : Int) ∧ Hid (Tab wq w1.heap.size g (m + 1) (m + 1) bl (m + 1) (fun j c => rcD m (j + c))) ∧ Hid (IRow wq w.heap.size (.slice (some ⟨w.heap.size, 0, none⟩) (m + 1) (m + 1)) (fr (rcO m G 0) (m + 1))) ∧ Hid (Below w.heap.size w wq)) (fun gg _ => m + 1 - (intOf gg).toNat)
          case atStart => exact ⟨0, by omega, rfl, HTF, HO2, HB2⟩
          case round =>
            obtain ⟨G, hG, rfl, HTG, HOG, HBG⟩ := hrel
            clear HTF HO2 HB2
            by_cases hltG : G < m + 1
            · have e1 := HTG.out.made G (by omega)
              have i1 : (G : Int) < (m : Int) + 1 := by omega
              go_wp2_with fail
              go_loopw [124] (fun rr wq => ∃ (R : Nat), R ≤ m + 1 ∧ rr = .int .i64 (R : Int) ∧ Hid (Tab wq w1.heap.size g (m + 1) (m + 1) bl (m + 1) (fun j c => rcD m (j + c))) ∧ Hid (IRow wq w.heap.size (.slice (some ⟨w.heap.size, 0, none⟩) (m + 1) (m + 1)) (fr (rcO m G R) (m + 1))) ∧ Hid (Below w.heap.size w wq)) (fun rr _ => m + 1 - (intOf rr).toNat)
              case atStart => exact ⟨0, by omega, rfl, HTG, HOG, HBG⟩
              case round =>
                obtain ⟨R, hR, rfl, HTR, HOR, HBR⟩ := hrel
                clear HTG HOG HBG e1
                by_cases hltR : R < m + 1
                · have c0 := HTR.out.cell G R (by omega) (by omega)
                  have d0 := HOR.out.cell (j := R) (by rw [fr_length]; omega)
                  rw [fr_get _ _ _ hltR] at d0
                  have f0 := HOR.out.free R
                  have hst := (HOR.out.set R (rcO m G R R + rcD m (G + R))).1
                  rw [rcO_set] at hst
                  have HS1 := Lib.hid hst
                  have HT2 := Lib.hid (HTR.out.other (p := ⟨w.heap.size, R, none⟩) hwO.2 (.int .i64 (rcO m G R R + rcD m (G + R))))
                  have HB1 := Lib.hid (HBR.out.setCell (p := ⟨w.heap.size, R, none⟩) (Nat.le_refl _) (.int .i64 (rcO m G R R + rcD m (G + R))))
                  have b1 := rcD_bd (show m ≤ 16 by omega) (G + R)
                  have b2 := rcO_bd (show m ≤ 16 by omega) (show G ≤ 17 by omega) R R
                  have i2 : (R : Int) < (m : Int) + 1 := by omega
                  clear hst HTR HOR HBR
                  generalize rcO m G R R = x1 at *
                  generalize rcD m (G + R) = x at *
                  go_wp2_with fail
                  go_roundw
                  case rel => exact ⟨R + 1, by omega, by go_num, HT2, HS1, HB1⟩
                  case measure => first | (simp [intOf]; done) | (simp [intOf]; omega)
                · have HK4 : Hid (R = m + 1) := by unfold Hid; omega
                  have hO := HOR.out
                  rw [HK4.out, rcO_row] at hO
                  have HO3 := Lib.hid hO
                  clear hO HOR
                  have hrb : decide ((R : Int) < (m : Int) + 1) = false := decide_eq_false (by omega)
                  go_wp2_with fail
                  go_roundw
                  case rel => exact ⟨G + 1, by omega, by go_num, HTR, HO3, HBR⟩
                  case measure => first | (simp [intOf]; done) | (simp [intOf]; omega)
            · have HK4 : Hid (G = m + 1) := by unfold Hid; omega
              have hO := HOG.out
              rw [HK4.out, rcO_all] at hO
              have HO3 := Lib.hid hO
              clear hO HOG
              have hrb : decide ((G : Int) < (m : Int) + 1) = false := decide_eq_false (by omega)
              go_wp2_with fail
              go_ret2
              exact ⟨_, rfl, HO3.out, HBG.out⟩
theorem specByRecords_ret (n : Int) (w : World) : Calls Try.prog 63 #[.int .i64 n] w (IntsRet w (prB n) (prL rrF n)) := by
  rcases Bool.eq_false_or_eq_true (prB n) with h | h
  · obtain ⟨m, rfl, hm⟩ := prB_of h
    rw [prL_yes _ h, h]
    exact specByRecords_yes m hm h w
  · have HG := Lib.hid (reGood_any n)
    rw [prL_no _ h, h]
    rw [h] at HG
    go_enter Try.func63, Try.ntmps63
    go_wp2_with (go_at_call 193; refine (HG.out _).mono ?_; rintro e w1 ⟨rfl, rfl⟩)
    go_ret2
    exact ⟨_, rfl, IRow.nil _ _, Below.refl _ _⟩
end Go.Proofs.Ytachijliaedndaa

/- The greatest height. -/
namespace Go.Proofs.Ytachijliaedndaa
open Go.RowKit
set_option maxHeartbeats 400000 in
theorem max_ret (s : ByteArray) (w : World) (g c : Nat) (h40 : s.size ≤ 40) (B : Nat) (hr : IRow w B (.slice (some ⟨g, 0, none⟩) (s.size + 1) c) (hts s)) :
    Calls Try.prog 189 #[.slice (some ⟨g, 0, none⟩) (s.size + 1) c] w fun e w' => e = .returned (.int .i64 (maxTo s s.size)) ∧ w = w' := by
  have hc0 := hts_at hr 0 (by omega)
  have i0 : ¬ (s.size : Int) + 1 < 1 := by omega
  go_enter Try.func189, Try.ntmps189
  go_wp2
  go_loop [3, 4] (fun u i => ∃ k : Nat, k ≤ s.size ∧ i = .int .i64 ((k : Int) + 1) ∧ u = .int .i64 (maxTo s k)) (fun _ i => s.size + 1 - (intOf i).toNat)
  case atStart => exact ⟨0, Nat.zero_le _, rfl, by rw [hAt_zero]; rfl⟩
  case round =>
    obtain ⟨k, hk, rfl, rfl⟩ := hrel
    by_cases hlt : k < s.size
    · have hc := hts_at hr (k + 1) (by omega)
      go_wp2
      go_round
      case rel => exact ⟨k + 1, by omega, by go_num, rfl⟩
      case measure => simp [intOf]; omega
    · go_wp2
      obtain rfl : k = s.size := by omega
      go_ret
      exact ⟨rfl, rfl⟩
def highV (s : ByteArray) : Int := if pathB s then maxTo s s.size else 0
set_option maxHeartbeats 400000 in
theorem highestOf_ret (s : ByteArray) (w : World) (hs : s.size ≤ maxLen) : Calls Try.prog 59 #[.string s] w (Ret w (.tuple #[.int .i64 (highV s), .bool (pathB s)])) := by
  unfold highV
  rcases Bool.eq_false_or_eq_true (pathB s) with hp | hp
  · rw [hp, if_pos rfl]
    have HP := Lib.hid hp
    have h40 := ((pathB_iff s).1 hp).1
    clear hp
    go_enter Try.func59, Try.ntmps59
    go_wp2_with (first | (go_at_call 19; refine (heights_any s _ hs HP.out).mono ?_; rintro e w1 ⟨v, rfl, hr, hb⟩; obtain ⟨g, c, rfl, hgB, hgl⟩ := hr.form' (hts_length s) (by omega)) | (go_at_call 189; refine (max_ret s _ g c h40 _ hr).mono ?_; rintro e w' ⟨rfl, rfl⟩))
    go_ret2
    exact ⟨rfl, hb⟩
  · rw [hp]
    go_enter Try.func59, Try.ntmps59
    go_wp2_with (go_at_call 19; refine (heights_no s _ hs hp).mono ?_; rintro e w' ⟨rfl, rfl⟩)
    go_ret2
    exact ⟨rfl, Below.refl _ _⟩
end Go.Proofs.Ytachijliaedndaa
