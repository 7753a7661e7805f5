/- Pack 27 of what FnExactAllPairsApart needs: PcI, ArI. -/
import Derived.Test.YtnlmjeakdjmohaaKFnExactAllPairsApart26
/- The program's placesOf. -/
namespace Go.Proofs.Ytnlmjeakdjmohaa
open Go.RowKit
set_option linter.unusedVariables false
set_option maxRecDepth 100000 in
set_option maxHeartbeats 4000000 in
theorem placesOf_any (x y : Int) (s : ByteArray) (w : World) (hs : s.size ≤ maxLen) : Calls Try.prog 76 #[wayV x y s] w (PsRet w (wayB x y s) (ncN x y s) (ncX x y s)) := by
  have HX := Lib.hid (WBox.start w x y s)
  have c0 := HX.out.c0
  have c1 := HX.out.c1
  have c2 := HX.out.c2
  have HC : Hid (∀ x y w, Calls Try.prog 122 #[celV x y] w (Ret w (.bool (cellB x y)))) := Lib.hid isCellI_ret
  have HCP : Hid (∀ x y w, Calls Try.prog 121 #[celV x y] w (Ret w (celV x y))) := Lib.hid cellPlace_ret
  have HPC : Hid (∀ x y w, Calls Try.prog 124 #[celV x y] w (Ret w (celV x y))) := Lib.hid placeCell_ret
  have HS := Lib.hid hs
  rcases Bool.eq_false_or_eq_true (cellB x y) with a1 | a1
  · have HW : Hid (∀ j : Nat, okW s x y j = false → j ≤ s.size → wayB x y s = false) := Lib.hid (by
      intro j h hk
      rw [← wayB_alt, okW_no h hk, Bool.and_false])
    have HY : Hid (okW s x y s.size = true → wayB x y s = true) := Lib.hid (by
      intro h
      rw [← wayB_alt, h, a1]
      rfl)
    have HA1 := Lib.hid a1
    have HC0 : Hid (∀ w, Calls Try.prog 122 #[celV x y] w (Ret w (.bool true))) := Lib.hid fun w => by rw [← a1]; exact isCellI_ret x y w
    clear a1
    go_enter Try.func76, Try.ntmps76
    go_wp2_with fail
    refine (HC0.out _).mono ?_
    rintro e wa ⟨rfl, hba⟩
    have hx := HX.out.kept hba
    clear c0 c1 c2
    have c0 := hx.c0
    have c1 := hx.c1
    have HX1 := Lib.hid hx
    clear hx hba
    go_wp2_with fail
    refine (HCP.out _ _ _).mono ?_
    rintro e wb ⟨rfl, hbb⟩
    have hx := HX1.out.kept hbb
    clear c0 c1
    have c2 := hx.c2
    have HX2 := Lib.hid hx
    have HWB : Hid (Below w.heap.size w wb ∧ w.heap.size < wb.heap.size) := Lib.hid ⟨hx.below, hx.lt⟩
    clear hx hbb
    go_upto_region 5 with fail
    refine wp_nameN (fun X => PcAt w wb x y s wb.heap.size (.slice (some ⟨wb.heap.size + 1, 0, none⟩) 1 1) 1 (clF s x y 0) x y X) ?_ ?_
    · have hb : Below wb.heap.size wb (wb.alloc (.cells #[.int .i64 x, .int .i64 y] 103)) := (Below.refl _ _).alloc (Nat.le_refl _) _
      have hr := one_place (wb.alloc (.cells #[.int .i64 x, .int .i64 y] 103)) x y
      have hsz : (wb.alloc (.cells #[.int .i64 x, .int .i64 y] 103)).heap.size = wb.heap.size + 1 := by simp
      rw [hsz] at hr
      refine ⟨(HX2.out.kept hb).kept ((Below.refl _ _).alloc (Nat.le_refl _) _), by rw [clF_zero]; exact hr.mono (by omega), fun q hq e => ?_, by simp [go_sem], by simp [go_sem], by simp [go_sem], by simp [go_sem], by simp; omega, Nat.le_refl _, HX2.out.lt⟩
      have := (hr.blk q hq).1
      omega
    intro X hat0
    have b2 := hat0.box.c2
    have HN0 := Lib.hid hat0
    clear hat0 c2
    go_wp2_with fail
    go_loopw [5, 21] (fun o q wq => ∃ k : Nat, k ≤ s.size ∧ q = .int .i64 (k : Int) ∧ okW s x y k = true ∧ PcAt w wb x y s wb.heap.size o (k + 1) (clF s x y k) (cX s x k) (cY s y k) wq) (fun _ q _ => s.size - (intOf q).toNat)
    case atStart => exact ⟨0, Nat.zero_le _, rfl, rfl, HN0.out⟩
    case round =>
      obtain ⟨k, hk, rfl, hok, hat⟩ := hrel
      clear HN0 b2
      obtain ⟨A1, cc, rfl⟩ := hat.row.shape
      have b2 := hat.box.c2
      by_cases hlt : k < s.size
      · have i1 : (k : Int) < (s.size : Int) := by omega
        have d0 := hat.c0
        have d1 := hat.c1
        have d2 := hat.f0
        have d3 := hat.f1
        have hcell := (cellB_iff _ _).1 (okW_cell HA1.out hok)
        have h24 := ok_24 HA1.out hok
        have HBT := Lib.hid (bt_at s hlt)
        by_cases hE : bt s k = 69
        · have ex : cX s x (k + 1) = cX s x k + 1 := by
            show cX s x k + (if bt s k = 69 then 1 else 0) = _
            rw [if_pos hE]
          have ey : cY s y (k + 1) = cY s y k := by
            show cY s y k + (if bt s k = 78 then 1 else 0) = _
            rw [if_neg (by omega)]
            omega
          have q1 : ((s[k]).toNat : Int) = 69 := by rw [← HBT.out]; exact hE
          have HOK : Hid (okW s x y (k + 1) = cellB (cX s x k + 1) (cY s y k)) := Lib.hid (by
            rw [← ex, ← ey]
            show (okW s x y k && ((bt s k == 69 || bt s k == 78) && cellB (cX s x (k + 1)) (cY s y (k + 1)))) = _
            rw [hok, hE]
            rfl)
          have HSN := Lib.hid (clF_snoc s x y k)
          rw [ex, ey] at HSN
          have HX' := Lib.hid ex
          have HY' := Lib.hid ey
          have HAT := Lib.hid hat
          have HM : Hid (∀ w, Calls Try.prog 123 #[.int .u8 ((s[k]).toNat : Int)] w fun e w' => e = .returned (.tuple #[.func (.func 148) #[] #[], .bool true]) ∧ w = w') := Lib.hid fun w => by rw [q1]; exact moveOf_E w
          have HMV : Hid (∀ w, Calls Try.prog 148 #[celV (cX s x k) (cY s y k)] w (Ret w (celV (cX s x k + 1) (cY s y k)))) := Lib.hid fun w => east_ret _ _ w (by omega)
          clear hat hE ex ey HBT q1
          generalize cX s x k = px at *
          generalize cY s y k = py at *

          rcases Bool.eq_false_or_eq_true (cellB (px + 1) py) with a2 | a2
          · have HCC : Hid (∀ w, Calls Try.prog 122 #[celV (px + 1) py] w (Ret w (.bool true))) := Lib.hid fun w => by rw [← a2]; exact isCellI_ret _ _ w
            rw [a2] at HOK
            clear a2
            go_wp2_with fail
            refine (HM.out _).mono ?_
            rintro e w1 ⟨rfl, rfl⟩
            go_wp2_with fail
            refine (HMV.out _).mono ?_
            rintro e w2 ⟨rfl, hb⟩
            have hx := HAT.out.kept0 hb; clear HAT d0 d1 d2 d3 b2; have d0 := hx.c0; have d1 := hx.c1; have d2 := hx.f0; have d3 := hx.f1; have b2 := hx.box.c2; have HAT := Lib.hid hx; clear hx hb
            go_wp2_with fail
            refine (HPC.out _ _ _).mono ?_
            rintro e w3 ⟨rfl, hb⟩
            have hx := HAT.out.kept0 hb; clear HAT d0 d1 d2 d3 b2; have d0 := hx.c0; have d1 := hx.c1; have d2 := hx.f0; have d3 := hx.f1; have b2 := hx.box.c2; have HAT := Lib.hid hx; clear hx hb
            go_wp2_with fail
            refine (HCC.out _).mono ?_
            rintro e w4 ⟨rfl, hb⟩
            have hx := HAT.out.kept0 hb; clear HAT d0 d1 d2 d3 b2; have d0 := hx.c0; have d1 := hx.c1; have d2 := hx.f0; have d3 := hx.f1; have b2 := hx.box.c2; have HAT := Lib.hid hx; clear hx hb
            go_wp2_with fail
            refine (HMV.out _).mono ?_
            rintro e w5 ⟨rfl, hb⟩
            have hx := HAT.out.kept0 hb; clear HAT d0 d1 d2 d3 b2; have d0 := hx.c0; have d1 := hx.c1; have d2 := hx.f0; have d3 := hx.f1; have b2 := hx.box.c2; have HAT := Lib.hid hx; clear hx hb
            go_upto_region 12 with fail
            refine wp_nameN (fun X2 => PcAt w wb x y s wb.heap.size (.slice A1 (k + 1) cc) (k + 1) (clF s x y k) (px + 1) py X2) ((HAT.out.put0 (px + 1)).put1 py) ?_
            intro X2 hat2
            clear HAT d0 d1 d2 d3 b2
            have d0 := hat2.c0
            have d1 := hat2.c1
            have HAT := Lib.hid hat2
            clear hat2
            go_wp2_with (refine wpList_pushP (px + 1) py (.tmp 45) (.tmp 47) rfl rfl wb.heap.size _ (k + 1) _ rfl HAT.out.row X2.heap.size rfl rfl (by omega) (Nat.le_trans HAT.out.lo (Nat.le_of_lt HAT.out.lt)) ?_; intro v' w' hr' hg' hat')
            rw [HSN.out] at hr'
            have HAT4 := Lib.hid (HAT.out.push hr' hg' hat')
            obtain ⟨A2, c5, rfl⟩ := hr'.shape
            clear hr' hg' hat'
            go_wp2_with fail
            go_roundw
            case rel => exact ⟨k + 1, by omega, by go_num, HOK.out, by rw [HX'.out, HY'.out]; exact HAT4.out⟩
            case measure => first | (simp [intOf]; done) | (simp [intOf]; omega)
          · have HCC : Hid (∀ w, Calls Try.prog 122 #[celV (px + 1) py] w (Ret w (.bool false))) := Lib.hid fun w => by rw [← a2]; exact isCellI_ret _ _ w
            rw [a2] at HOK
            have HNO := Lib.hid (HW.out (k + 1) HOK.out (by omega))
            have E1 : Hid (ncN x y s = 0) := Lib.hid (by simp [ncN, HNO.out]); have E2 : Hid (ncX x y s = []) := Lib.hid (by simp [ncX, HNO.out])
            clear a2
            go_wp2_with fail
            refine (HM.out _).mono ?_
            rintro e w1 ⟨rfl, rfl⟩
            go_wp2_with fail
            refine (HMV.out _).mono ?_
            rintro e w2 ⟨rfl, hb⟩
            have hx := HAT.out.kept0 hb; clear HAT d0 d1 d2 d3 b2; have d0 := hx.c0; have d1 := hx.c1; have d2 := hx.f0; have d3 := hx.f1; have b2 := hx.box.c2; have HAT := Lib.hid hx; clear hx hb
            go_wp2_with fail
            refine (HPC.out _ _ _).mono ?_
            rintro e w3 ⟨rfl, hb⟩
            have hx := HAT.out.kept0 hb; clear HAT d0 d1 d2 d3 b2; have d0 := hx.c0; have d1 := hx.c1; have d2 := hx.f0; have d3 := hx.f1; have b2 := hx.box.c2; have HAT := Lib.hid hx; clear hx hb
            go_wp2_with fail
            refine (HCC.out _).mono ?_
            rintro e w4 ⟨rfl, hb⟩
            have hx := HAT.out.kept0 hb; clear HAT d0 d1 d2 d3 b2; have d0 := hx.c0; have d1 := hx.c1; have d2 := hx.f0; have d3 := hx.f1; have b2 := hx.box.c2; have HAT := Lib.hid hx; clear hx hb
            go_wp2_with fail
            go_ret2
            exact ⟨.slice none 0 0, by rw [HNO.out]; rfl, by rw [E1.out, E2.out]; exact ⟨World.ownsRow_nil _ _ _ _, rfl⟩, HAT.out.box.below⟩
        · by_cases hN : bt s k = 78
          · have ex : cX s x (k + 1) = cX s x k := by
              show cX s x k + (if bt s k = 69 then 1 else 0) = _
              rw [if_neg (by omega)]
              omega
            have ey : cY s y (k + 1) = cY s y k + 1 := by
              show cY s y k + (if bt s k = 78 then 1 else 0) = _
              rw [if_pos hN]
            have q1 : ((s[k]).toNat : Int) = 78 := by rw [← HBT.out]; exact hN
            have HOK : Hid (okW s x y (k + 1) = cellB (cX s x k) (cY s y k + 1)) := Lib.hid (by
              rw [← ex, ← ey]
              show (okW s x y k && ((bt s k == 69 || bt s k == 78) && cellB (cX s x (k + 1)) (cY s y (k + 1)))) = _
              rw [hok, hN]
              rfl)
            have HSN := Lib.hid (clF_snoc s x y k)
            rw [ex, ey] at HSN
            have HX' := Lib.hid ex
            have HY' := Lib.hid ey
            have HAT := Lib.hid hat
            have HM : Hid (∀ w, Calls Try.prog 123 #[.int .u8 ((s[k]).toNat : Int)] w fun e w' => e = .returned (.tuple #[.func (.func 149) #[] #[], .bool true]) ∧ w = w') := Lib.hid fun w => by rw [q1]; exact moveOf_N w
            have HMV : Hid (∀ w, Calls Try.prog 149 #[celV (cX s x k) (cY s y k)] w (Ret w (celV (cX s x k) (cY s y k + 1)))) := Lib.hid fun w => north_ret _ _ w (by omega)
            clear hat hE hN ex ey HBT q1
            generalize cX s x k = px at *
            generalize cY s y k = py at *

            rcases Bool.eq_false_or_eq_true (cellB px (py + 1)) with a2 | a2
            · have HCC : Hid (∀ w, Calls Try.prog 122 #[celV px (py + 1)] w (Ret w (.bool true))) := Lib.hid fun w => by rw [← a2]; exact isCellI_ret _ _ w
              rw [a2] at HOK
              clear a2
              go_wp2_with fail
              refine (HM.out _).mono ?_
              rintro e w1 ⟨rfl, rfl⟩
              go_wp2_with fail
              refine (HMV.out _).mono ?_
              rintro e w2 ⟨rfl, hb⟩
              have hx := HAT.out.kept0 hb; clear HAT d0 d1 d2 d3 b2; have d0 := hx.c0; have d1 := hx.c1; have d2 := hx.f0; have d3 := hx.f1; have b2 := hx.box.c2; have HAT := Lib.hid hx; clear hx hb
              go_wp2_with fail
              refine (HPC.out _ _ _).mono ?_
              rintro e w3 ⟨rfl, hb⟩
              have hx := HAT.out.kept0 hb; clear HAT d0 d1 d2 d3 b2; have d0 := hx.c0; have d1 := hx.c1; have d2 := hx.f0; have d3 := hx.f1; have b2 := hx.box.c2; have HAT := Lib.hid hx; clear hx hb
              go_wp2_with fail
              refine (HCC.out _).mono ?_
              rintro e w4 ⟨rfl, hb⟩
              have hx := HAT.out.kept0 hb; clear HAT d0 d1 d2 d3 b2; have d0 := hx.c0; have d1 := hx.c1; have d2 := hx.f0; have d3 := hx.f1; have b2 := hx.box.c2; have HAT := Lib.hid hx; clear hx hb
              go_wp2_with fail
              refine (HMV.out _).mono ?_
              rintro e w5 ⟨rfl, hb⟩
              have hx := HAT.out.kept0 hb; clear HAT d0 d1 d2 d3 b2; have d0 := hx.c0; have d1 := hx.c1; have d2 := hx.f0; have d3 := hx.f1; have b2 := hx.box.c2; have HAT := Lib.hid hx; clear hx hb
              go_upto_region 12 with fail
              refine wp_nameN (fun X2 => PcAt w wb x y s wb.heap.size (.slice A1 (k + 1) cc) (k + 1) (clF s x y k) px (py + 1) X2) ((HAT.out.put0 px).put1 (py + 1)) ?_
              intro X2 hat2
              clear HAT d0 d1 d2 d3 b2
              have d0 := hat2.c0
              have d1 := hat2.c1
              have HAT := Lib.hid hat2
              clear hat2
              go_wp2_with (refine wpList_pushP px (py + 1) (.tmp 45) (.tmp 47) rfl rfl wb.heap.size _ (k + 1) _ rfl HAT.out.row X2.heap.size rfl rfl (by omega) (Nat.le_trans HAT.out.lo (Nat.le_of_lt HAT.out.lt)) ?_; intro v' w' hr' hg' hat')
              rw [HSN.out] at hr'
              have HAT4 := Lib.hid (HAT.out.push hr' hg' hat')
              obtain ⟨A2, c5, rfl⟩ := hr'.shape
              clear hr' hg' hat'
              go_wp2_with fail
              go_roundw
              case rel => exact ⟨k + 1, by omega, by go_num, HOK.out, by rw [HX'.out, HY'.out]; exact HAT4.out⟩
              case measure => first | (simp [intOf]; done) | (simp [intOf]; omega)
            · have HCC : Hid (∀ w, Calls Try.prog 122 #[celV px (py + 1)] w (Ret w (.bool false))) := Lib.hid fun w => by rw [← a2]; exact isCellI_ret _ _ w
              rw [a2] at HOK
              have HNO := Lib.hid (HW.out (k + 1) HOK.out (by omega))
              have E1 : Hid (ncN x y s = 0) := Lib.hid (by simp [ncN, HNO.out]); have E2 : Hid (ncX x y s = []) := Lib.hid (by simp [ncX, HNO.out])
              clear a2
              go_wp2_with fail
              refine (HM.out _).mono ?_
              rintro e w1 ⟨rfl, rfl⟩
              go_wp2_with fail
              refine (HMV.out _).mono ?_
              rintro e w2 ⟨rfl, hb⟩
              have hx := HAT.out.kept0 hb; clear HAT d0 d1 d2 d3 b2; have d0 := hx.c0; have d1 := hx.c1; have d2 := hx.f0; have d3 := hx.f1; have b2 := hx.box.c2; have HAT := Lib.hid hx; clear hx hb
              go_wp2_with fail
              refine (HPC.out _ _ _).mono ?_
              rintro e w3 ⟨rfl, hb⟩
              have hx := HAT.out.kept0 hb; clear HAT d0 d1 d2 d3 b2; have d0 := hx.c0; have d1 := hx.c1; have d2 := hx.f0; have d3 := hx.f1; have b2 := hx.box.c2; have HAT := Lib.hid hx; clear hx hb
              go_wp2_with fail
              refine (HCC.out _).mono ?_
              rintro e w4 ⟨rfl, hb⟩
              have hx := HAT.out.kept0 hb; clear HAT d0 d1 d2 d3 b2; have d0 := hx.c0; have d1 := hx.c1; have d2 := hx.f0; have d3 := hx.f1; have b2 := hx.box.c2; have HAT := Lib.hid hx; clear hx hb
              go_wp2_with fail
              go_ret2
              exact ⟨.slice none 0 0, by rw [HNO.out]; rfl, by rw [E1.out, E2.out]; exact ⟨World.ownsRow_nil _ _ _ _, rfl⟩, HAT.out.box.below⟩
          · have q1 : (((s[k]).toNat : Int) == 69) = false := by rw [← HBT.out]; exact beq_eq_false_iff_ne.2 hE
            have q2 : (((s[k]).toNat : Int) == 78) = false := by rw [← HBT.out]; exact beq_eq_false_iff_ne.2 hN
            have HNO : Hid (wayB x y s = false) := Lib.hid (HW.out (k + 1) (by
              show (okW s x y k && ((bt s k == 69 || bt s k == 78) && cellB (cX s x (k + 1)) (cY s y (k + 1)))) = _
              rw [beq_eq_false_iff_ne.2 hE, beq_eq_false_iff_ne.2 hN]
              cases okW s x y k <;> rfl) (by omega))
            have E1 : Hid (ncN x y s = 0) := Lib.hid (by simp [ncN, HNO.out]); have E2 : Hid (ncX x y s = []) := Lib.hid (by simp [ncX, HNO.out])
            have HM : Hid (∀ w, Calls Try.prog 123 #[.int .u8 ((s[k]).toNat : Int)] w fun e w' => (∃ v, e = .returned (.tuple #[v, .bool false])) ∧ w = w') := Lib.hid fun w => moveOf_no _ w q1 q2
            have HAT := Lib.hid hat
            clear hat hE hN q1 q2 HBT

            go_wp2_with fail
            refine (HM.out _).mono ?_
            rintro e w1 ⟨⟨vv, rfl⟩, rfl⟩
            go_wp2_with fail
            go_ret2
            exact ⟨.slice none 0 0, by rw [HNO.out]; rfl, by rw [E1.out, E2.out]; exact ⟨World.ownsRow_nil _ _ _ _, rfl⟩, HAT.out.box.below⟩
      · obtain rfl : k = s.size := by omega
        have hyes := HY.out hok
        have e1 : ncN x y s = s.size + 1 := by unfold ncN; rw [if_pos hyes]
        have e2 : ncX x y s = clF s x y s.size := by unfold ncX; rw [if_pos hyes]
        have HYE := Lib.hid hyes
        have E1 := Lib.hid e1
        have E2 := Lib.hid e2
        have HAT := Lib.hid hat
        clear e1 e2 hyes hat
        go_wp2_with fail
        go_ret2
        exact ⟨.slice A1 (s.size + 1) cc, by rw [HYE.out]; rfl, by rw [E1.out, E2.out]; exact HAT.out.row.mono HWB.out.1.size, HAT.out.box.below⟩
  · have HNO : Hid (wayB x y s = false) := Lib.hid (by unfold wayB; rw [a1, Bool.false_and, Bool.false_and])
    have HC0 : Hid (∀ w, Calls Try.prog 122 #[celV x y] w (Ret w (.bool false))) := Lib.hid fun w => by rw [← a1]; exact isCellI_ret x y w
    have E1 : Hid (ncN x y s = 0) := Lib.hid (by simp [ncN, HNO.out]); have E2 : Hid (ncX x y s = []) := Lib.hid (by simp [ncX, HNO.out])
    clear a1
    go_enter Try.func76, Try.ntmps76
    go_wp2_with fail
    refine (HC0.out _).mono ?_
    rintro e wa ⟨rfl, hba⟩
    have HX2 := Lib.hid (HX.out.kept hba)
    clear hba
    go_wp2_with fail
    go_ret2
    exact ⟨.slice none 0 0, by rw [HNO.out]; rfl, by rw [E1.out, E2.out]; exact ⟨World.ownsRow_nil _ _ _ _, rfl⟩, HX2.out.below⟩
end Go.Proofs.Ytnlmjeakdjmohaa

/- The program's AreApart. -/
namespace Go.Proofs.Ytnlmjeakdjmohaa
open Go.RowKit
set_option linter.unusedVariables false
/-- the ways, and what is taken -/
structure ArB (w : World) (v : Value) (n : Nat) (L : List Wy) (o : Value) (m : Nat) (ts : List Int) (X : World) : Prop where
  r : RWays X v n L
  t : PRow X w.heap.size o m ts
  below : Below w.heap.size w X
theorem ArB.kept {w X X' : World} {v o : Value} {n m : Nat} {L : List Wy} {ts : List Int} (h : ArB w v n L o m ts X) (hb : Below X.heap.size X X') : ArB w v n L o m ts X' := ⟨h.r.below hb, h.t.below hb, h.below.trans (hb.mono h.below.size)⟩
end Go.Proofs.Ytnlmjeakdjmohaa
