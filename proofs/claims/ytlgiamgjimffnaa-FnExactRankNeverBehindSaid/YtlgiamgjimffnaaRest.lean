/- baRest: the ways on, by a table. -/
import Derived.Test.YtlgiamgjimffnaaTab
import Derived.Test.YtlgiamgjimffnaaRestMath
import Derived.RegionTactic
import Derived.ChangeAlike
namespace Go.Proofs.Ytlgiamgjimffnaa
open Go.RowKit
set_option maxRecDepth 100000 in
set_option maxHeartbeats 2000000 in
theorem baRest_any (a b : Nat) (k m : Int) (w : World) (hab : a + b ≤ 40) (hk : 1 ≤ k ∧ k ≤ 5) (hm : -300 ≤ m ∧ m ≤ 300) :
    Calls Try.prog 81 #[.int .i64 a, .int .i64 b, .int .i64 k, .int .i64 m] w (Ret w (.int .i64 (wayV a b k m b a))) := by
  obtain ⟨i0, hi, hz0, hz1, hz2⟩ := info_parts rowInfo
  obtain ⟨j0, hj, hk0, hk1, hk2⟩ := info_parts intInfo
  have hka := hk.1
  have hkb := hk.2
  clear hk
  go_enter Try.func81, Try.ntmps81
  go_wp2_with (refine wpList_make_full _ rfl (.tmp 14) (.tmp 14) 93 rfl w.heap.size 27 i0 (.slice none 0 0) 1 Try.underlying93 hi hz0 hz1 .i64 .i64 _ _ (b + 1) rfl rfl (by omega) (by omega) (by rw [hz2]; omega) (by unfold maxLen; omega) (Nat.le_refl _) ?_; intro w0 hown0 hgrow0)
  have hT0 : Tab w0 w.heap.size w.heap.size (b + 1) (a + 1) (fun _ => 0) 0 (stT (wayV a b k m) 0 0) := (Tab.start (Nat.le_refl _) (by rw [madeOne _ rfl] at hown0; exact hown0)).congr (fun j c hj => absurd hj (by omega))
  have hb0 : Below w.heap.size w w0 := (Below.refl _ _).grown hgrow0 (Nat.le_refl _) (by simp)
  clear hown0 hgrow0
  go_loopw [10] (fun jj wr => ∃ (J : Nat) (blk : Nat → Nat), J ≤ b + 1 ∧ jj = .int .i64 (J : Int) ∧ Hid (Tab wr w.heap.size w.heap.size (b + 1) (a + 1) blk J (stT (wayV a b k m) J 0)) ∧ Below w.heap.size w wr) (fun jj _ => b + 1 - (intOf jj).toNat)
  case atStart => exact ⟨0, _, by omega, rfl, Lib.hid hT0, hb0⟩
  case round =>
    obtain ⟨J, blk, hJ, rfl, HT, hb⟩ := hrel
    clear hT0
    have hsz := hb.size
    by_cases hlt : J < b + 1
    · obtain ⟨wo, rfl⟩ : ∃ wo : World, wo = wr := ⟨_, rfl⟩
      go_wp2_with (refine wpList_make_full _ rfl (.tmp 24) (.tmp 24) 27 rfl wo.heap.size 3 j0 (.int .i64 0) 1 Try.underlying27 hj hk0 hk1 .i64 .i64 _ _ (a + 1) rfl rfl (by omega) (by omega) (by rw [hk2]; omega) (by unfold maxLen; omega) (Nat.le_refl _) ?_; intro w1 hown1 hgrow1; have hrow1 : IRow w1 wo.heap.size (.slice (some ⟨wo.heap.size, 0, none⟩) (a + 1) (a + 1)) (List.replicate (a + 1) 0) := (IRow.of_own hown1 (by simp) (by rw [madeOne _ rfl]; simp)); have hb1 : Below wo.heap.size wo w1 := ((Below.refl _ _).grown hgrow1 (Nat.le_refl _) (by simp)); have HP := Lib.hid ((HT.out.push (by omega) hsz hb1 hrow1).congr (fun j c _ _ => stT_row _ _ _ _)); have hy := (HT.out.below hb1).yet J (Nat.le_refl _) (by omega); have hof := (HT.out.below hb1).outF J; clear hown1 hgrow1 hrow1)
      have hb2 : Below w.heap.size w (w1.setCell ⟨w.heap.size, J, none⟩ (.slice (some ⟨wo.heap.size, 0, none⟩) (a + 1) (a + 1))) := (hb.trans (hb1.mono hsz)).setCell (Nat.le_refl _) _
      generalize w1.setCell ⟨w.heap.size, J, none⟩ (.slice (some ⟨wo.heap.size, 0, none⟩) (a + 1) (a + 1)) = w2 at *
      generalize (fun j => if j = J then wo.heap.size else blk j) = bl at *
      clear hy hof hb1 HT hb
      go_loopw [11] (fun ii wr => ∃ (I : Nat), I ≤ a + 1 ∧ ii = .int .i64 (I : Int) ∧ Hid (Tab wr w.heap.size w.heap.size (b + 1) (a + 1) bl (J + 1) (stT (wayV a b k m) J I)) ∧ Below w.heap.size w wr) (fun ii _ => a + 1 - (intOf ii).toNat)
      case atStart => exact ⟨0, by omega, rfl, HP, hb2⟩
      case round =>
        obtain ⟨I, hI, rfl, HT, hb⟩ := hrel
        clear HP hb2
        have hsz2 := hb.size
        by_cases hlt2 : I < a + 1
        · have hkj : 0 ≤ k * ((b : Int) - (J : Int)) ∧ k * ((b : Int) - (J : Int)) ≤ 200 := kmul_bd hka hkb (by omega) (by omega)
          have HAT : Hid (m + ((a : Int) - (I : Int)) - k * ((b : Int) - (J : Int)) = atM a b k m J I) := Lib.hid rfl
          have e1 := HT.out.made J (by omega)
          have e2 := HT.out.cell J I (by omega) hlt2
          rw [stT_new (by omega)] at e2
          have f2 := HT.out.free J I (by omega)
          have i1 : (J : Int) < (b : Int) + 1 := by omega
          have i2 : (I : Int) < (a : Int) + 1 := by omega
          by_cases hlow : m + ((a : Int) - (I : Int)) - k * ((b : Int) - (J : Int)) < 0
          · have HV := Lib.hid (wayV_low (HAT.out ▸ hlow : atM a b k m J I < 0))
            go_wp2
            go_roundw
            case rel => exact ⟨I + 1, by omega, by go_num, Lib.hid (HT.out.congr (fun j c _ _ => stT_skip HV.out j c)), hb⟩
            case measure => first | (simp [intOf]; done) | (simp [intOf]; omega)
          · have HNL : Hid (¬ atM a b k m J I < 0) := Lib.hid (HAT.out ▸ hlow)
            by_cases h00 : I = 0 ∧ J = 0
            · have hz : ((I : Int) + (J : Int) == 0) = true := by simp; omega
              have HV : Hid (wayV a b k m J I = 1) := by unfold Hid; have := HNL.out; rw [h00.1, h00.2] at this ⊢; exact wayV_0 this
              have HS := Lib.hid (HT.out.set J I 1 (by omega) hlt2)
              clear h00
              go_wp2
              go_roundw
              case rel => exact ⟨I + 1, by omega, by go_num, Lib.hid (HS.out.congr (fun j c _ _ => by rw [← HV.out]; exact stT_set _ _ _ _ _)), hb.setCell (HT.out.blkB J (by omega)).1 _⟩
              case measure => first | (simp [intOf]; done) | (simp [intOf]; omega)
            · have hz : ((I : Int) + (J : Int) == 0) = false := by simp; omega
              by_cases hI0 : I = 0
              · obtain ⟨j, rfl⟩ : ∃ j, J = j + 1 := ⟨J - 1, by omega⟩
                subst hI0
                have e4 := HT.out.made j (by omega)
                have e5 := HT.out.cell j 0 (by omega) (by omega)
                rw [stT_old (by omega)] at e5
                have hv5 := wayV_bd a b k m j 0 (by omega)
                have HVD : Hid (wayV a b k m (j + 1) 0 = wayV a b k m j 0) := Lib.hid (wayV_down HNL.out)
                have HS := Lib.hid (HT.out.set (j + 1) 0 (wayV a b k m j 0) (by omega) (by omega))
                have HAD : Hid (m + ((a : Int) - (0 : Int)) - k * ((b : Int) - ((j : Int) + 1)) - k = atM a b k m j 0) := Lib.hid (atM_down a b k m j 0)
                have hbk := (HT.out.blkB (j + 1) (by omega)).1
                have i3 : (j : Int) < (b : Int) + 1 := by omega
                have i4 : 0 ≤ (j : Int) + 1 := by omega
                have i5 : (0 : Int) < (a : Int) + 1 := by omega
                clear h00
                rw [show ((j + 1 : Nat) : Int) = (j : Int) + 1 from by omega] at hz hlow i1 hkj ⊢
                rw [show ((0 : Nat) : Int) = 0 from rfl] at hz hlow i2 ⊢
                by_cases hJ1 : 0 ≤ m + ((a : Int) - 0) - k * ((b : Int) - ((j : Int) + 1)) - k
                · generalize hv : wayV a b k m j 0 = v5 at *
                  have HV5 := Lib.hid hv
                  clear hv
                  go_wp2
                  go_region
                  go_wp2
                  go_roundw
                  case rel => exact ⟨0 + 1, by omega, rfl, Lib.hid (HS.out.drew.congr (fun j' c _ _ => by rw [← HVD.out]; exact stT_set _ _ _ _ _)), (hb.setCell hbk _).drew⟩
                  case measure => first | (simp [intOf]; done) | (simp [intOf]; omega)
                · have HV0 : Hid (wayV a b k m (j + 1) 0 = 0) := by
                    unfold Hid
                    rw [HVD.out]
                    exact wayV_low (by have := HAD.out; omega)
                  go_wp2
                  go_roundw
                  case rel => exact ⟨0 + 1, by omega, rfl, Lib.hid (HT.out.congr (fun j' c _ _ => stT_skip HV0.out j' c)), hb⟩
                  case measure => first | (simp [intOf]; done) | (simp [intOf]; omega)
              · obtain ⟨i, rfl⟩ : ∃ i, I = i + 1 := ⟨I - 1, by omega⟩
                have e3 := HT.out.cell J i (by omega) (by omega)
                rw [stT_old (by omega)] at e3
                have hv3 := wayV_bd a b k m J i (by omega)
                have HS := Lib.hid (HT.out.set J (i + 1) (wayV a b k m J i) (by omega) hlt2)
                have i3 : (i : Int) < (a : Int) + 1 := by omega
                have i4 : 0 ≤ (i : Int) + 1 := by omega
                have hbk := (HT.out.blkB J (by omega)).1
                clear hI0 h00
                rw [show ((i + 1 : Nat) : Int) = (i : Int) + 1 from by omega] at hz hlow i2 ⊢
                by_cases hJ0 : 0 < J
                · obtain ⟨j, rfl⟩ : ∃ j, J = j + 1 := ⟨J - 1, by omega⟩
                  have HVB : Hid (wayV a b k m (j + 1) (i + 1) = wayV a b k m (j + 1) i + wayV a b k m j (i + 1)) := Lib.hid (wayV_both HNL.out)
                  have HAD : Hid (m + ((a : Int) - ((i : Int) + 1)) - k * ((b : Int) - ((j : Int) + 1)) - k = atM a b k m j (i + 1)) := Lib.hid (atM_down a b k m j (i + 1))
                  have i5 : 0 ≤ (j : Int) + 1 := by omega
                  have i6 : (j : Int) < (b : Int) + 1 := by omega
                  rw [show ((j + 1 : Nat) : Int) = (j : Int) + 1 from by omega] at hz hlow i1 hkj ⊢
                  by_cases hJ1 : 0 ≤ m + ((a : Int) - ((i : Int) + 1)) - k * ((b : Int) - ((j : Int) + 1)) - k
                  · generalize hv : wayV a b k m (j + 1) i = v3 at *
                    have HV3 := Lib.hid hv
                    clear hv
                    go_wp2
                    go_region
                    clear e1 e2 e3 f2
                    have HS2 := Lib.hid HS.out.drew
                    have hb2 : Below w.heap.size w (wr.setCell ⟨bl (j + 1), i + 1, none⟩ (.int .i64 v3)).drew := (hb.setCell hbk _).drew
                    generalize (wr.setCell ⟨bl (j + 1), i + 1, none⟩ (.int .i64 v3)).drew = wz at *
                    have e1 := HS2.out.made (j + 1) (by omega)
                    have e2 := HS2.out.cell (j + 1) (i + 1) (by omega) hlt2
                    rw [if_pos ⟨rfl, rfl⟩] at e2
                    have f2 := HS2.out.free (j + 1) (i + 1) (by omega)
                    have e4 := HS2.out.made j (by omega)
                    have e5 := HS2.out.cell j (i + 1) (by omega) hlt2
                    rw [if_neg (by omega), stT_old (by omega)] at e5
                    have hv5 := wayV_bd a b k m j (i + 1) (by omega)
                    have HS3 := Lib.hid (HS2.out.set (j + 1) (i + 1) (v3 + wayV a b k m j (i + 1)) (by omega) hlt2)
                    generalize hv : wayV a b k m j (i + 1) = v5 at *
                    have HV5 := Lib.hid hv
                    clear hv
                    go_wp2
                    go_region
                    go_wp2
                    go_roundw
                    case rel => exact ⟨i + 1 + 1, by omega, by go_num, Lib.hid (HS3.out.drew.congr (fun j' c _ _ => by
                      rw [← stT_set (wayV a b k m) (j + 1) (i + 1) j' c, HVB.out]
                      by_cases hh : j' = j + 1 ∧ c = i + 1
                      · rw [if_pos hh, if_pos hh]
                      · rw [if_neg hh, if_neg hh, if_neg hh])), (hb2.setCell hbk _).drew⟩
                    case measure => first | (simp [intOf]; done) | (simp [intOf]; omega)
                  · have HV0 : Hid (wayV a b k m (j + 1) (i + 1) = wayV a b k m (j + 1) i) := by
                      unfold Hid
                      rw [HVB.out, wayV_low (j := j) (i := i + 1) (by have := HAD.out; omega), Int.add_zero]
                    generalize hv : wayV a b k m (j + 1) i = v3 at *
                    have HV3 := Lib.hid hv
                    clear hv
                    go_wp2
                    go_region
                    go_wp2
                    go_roundw
                    case rel => exact ⟨i + 1 + 1, by omega, by go_num, Lib.hid (HS.out.drew.congr (fun j' c _ _ => by rw [← HV0.out]; exact stT_set _ _ _ _ _)), (hb.setCell hbk _).drew⟩
                    case measure => first | (simp [intOf]; done) | (simp [intOf]; omega)
                · have HV0 : Hid (wayV a b k m J (i + 1) = wayV a b k m J i) := by
                    obtain rfl : J = 0 := by omega
                    exact wayV_up HNL.out
                  generalize hv : wayV a b k m J i = v3 at *
                  have HV3 := Lib.hid hv
                  clear hv
                  go_wp2
                  go_region
                  go_wp2
                  go_roundw
                  case rel => exact ⟨i + 1 + 1, by omega, by go_num, Lib.hid (HS.out.drew.congr (fun j' c _ _ => by rw [← HV0.out]; exact stT_set _ _ _ _ _)), (hb.setCell hbk _).drew⟩
                  case measure => first | (simp [intOf]; done) | (simp [intOf]; omega)
        · have HK : Hid (I = a + 1) := by unfold Hid; omega
          go_wp2
          go_roundw
          case rel => exact ⟨J + 1, bl, by omega, by go_num, Lib.hid ((HK.out ▸ HT.out).congr (fun j c hj hc => stT_next hc hj)), hb⟩
          case measure => first | (simp [intOf]; done) | (simp [intOf]; omega)
    · have HK : Hid (J = b + 1) := by unfold Hid; omega
      have hT := HT.out
      rw [HK.out] at hT
      have e1 := hT.made b (by omega)
      have e2 := hT.cell b a (by omega) (by omega)
      rw [stT_old (by omega)] at e2
      have i1 : (b : Int) < (b : Int) + 1 := by omega
      have i2 : (a : Int) < (a : Int) + 1 := by omega
      clear hT
      go_wp2
      go_ret
      exact ⟨rfl, hb⟩
end Go.Proofs.Ytlgiamgjimffnaa
