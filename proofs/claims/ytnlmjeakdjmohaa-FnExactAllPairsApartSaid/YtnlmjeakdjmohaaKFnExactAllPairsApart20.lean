/- Pack 20 of what FnExactAllPairsApart needs: NcC, NcE. -/
import Derived.Test.YtnlmjeakdjmohaaKFnExactAllPairsApart19
import Derived.Deep.CutBlock
import Derived.Deep.DeepCutAuto
/- The model's ncCells. -/
namespace Go.Proofs.Ytnlmjeakdjmohaa
open Go.RowKit
set_option linter.unusedVariables false
def ncN (x y : Int) (s : ByteArray) : Nat := if wayB x y s = true then s.size + 1 else 0
def ncX (x y : Int) (s : ByteArray) : List Int := if wayB x y s = true then clF s x y s.size else []
theorem wp_nameN {P : Program} {c : Code} {Q : Exit → Act → World → Prop} {a : Act} {w : World} (S : World → Prop) (h : S w) (k : ∀ W, S W → c.wp P Q a W) : c.wp P Q a w := k w h
set_option maxRecDepth 100000 in
set_option maxHeartbeats 4000000 in
theorem ncCells_any (x y : Int) (s : ByteArray) (w : World) (hs : s.size ≤ maxLen) : Calls Try.prog 73 #[wayV x y s] w (CsRet w (wayB x y s) (ncN x y s) (ncX x y s)) := by
  have HX := Lib.hid (WBox.start w x y s)
  have c0 := HX.out.c0
  have c1 := HX.out.c1
  have c2 := HX.out.c2
  have HC : Hid (∀ x y w, Calls Try.prog 80 #[celV x y] w (Ret w (.bool (cellB x y)))) := Lib.hid ncCell_any
  have HS := Lib.hid hs
  rcases Bool.eq_false_or_eq_true (cellB x y) with a1 | a1
  · by_cases hlen : s.size ≤ 24
    · have h24 : ¬ (24 : Int) < (s.size : Int) := by omega
      have HW : Hid (∀ j : Nat, okW s x y j = false → j ≤ s.size → wayB x y s = false) := Lib.hid (by
        intro j h hk
        unfold wayB
        rw [okW_no h hk, Bool.and_false])
      have HY : Hid (okW s x y s.size = true → wayB x y s = true) := Lib.hid (by
        intro h
        unfold wayB
        rw [h, a1, decide_eq_true hlen]
        rfl)
      have HC0 : Hid (∀ w, Calls Try.prog 80 #[celV x y] w (Ret w (.bool true))) := Lib.hid fun w => by rw [← a1]; exact ncCell_any x y w
      go_enter Try.func73, Try.ntmps73
      go_upto_region 4 with (go_at_call 80; refine (HC0.out _).mono ?_; rintro e wa ⟨rfl, hba⟩; have hx := HX.out.kept hba; have r0 := hx.c0; have r1 := hx.c1; have r2 := hx.c2; have HX2 := Lib.hid hx; clear hx hba)
      refine wp_nameN (fun X => WBox w x y s X ∧ CRow X wa.heap.size (.slice (some ⟨wa.heap.size, 0, none⟩) 1 1) 1 [x, y] ∧ X.heap.size = wa.heap.size + 1) ⟨HX2.out.kept ((Below.refl _ _).alloc (Nat.le_refl _) _), one_cell wa x y, by simp⟩ ?_
      rintro X ⟨hx, hrow, hsz⟩
      clear r0 r1 r2
      have r0 := hx.c0
      have r1 := hx.c1
      have HN0 : Hid (NcAt w wa x y s X.heap.size (.slice (some ⟨wa.heap.size, 0, none⟩) 1 1) 1 (clF s x y 0) x y (X.alloc (.cells #[.int .i64 x, .int .i64 y] 39))) := Lib.hid (by
        have hb : Below X.heap.size X (X.alloc (.cells #[.int .i64 x, .int .i64 y] 39)) := (Below.refl _ _).alloc (Nat.le_refl _) _
        refine ⟨hx.kept hb, by rw [clF_zero]; exact hrow.below hb, fun q hq e => ?_, by simp [go_sem], by simp [go_sem], by simp [go_sem], by simp [go_sem], by simp, by omega, HX2.out.lt⟩
        have := (hrow.blk q hq).2
        omega)
      have HWL : Hid (Below w.heap.size w wa) := Lib.hid HX2.out.below
      clear hx hrow hsz HX2
      go_wp2_with fail
      go_loopw [4, 6] (fun o q wq => ∃ k : Nat, k ≤ s.size ∧ q = .int .i64 (k : Int) ∧ okW s x y k = true ∧ NcAt w wa x y s X.heap.size o (k + 1) (clF s x y k) (cX s x k) (cY s y k) wq) (fun _ q _ => s.size - (intOf q).toNat)
      case atStart => exact ⟨0, Nat.zero_le _, rfl, rfl, HN0.out⟩
      case round =>
        obtain ⟨k, hk, rfl, hok, hat⟩ := hrel
        clear HN0
        obtain ⟨A1, cc, rfl⟩ := hat.row.shape
        have b2 := hat.box.c2
        by_cases hlt : k < s.size
        · have i1 : (k : Int) < (s.size : Int) := by omega
          have d0 := hat.c0
          have d1 := hat.c1
          have d2 := hat.f0
          have d3 := hat.f1
          have hcell := (cellB_iff _ _).1 (okW_cell a1 hok)
          have HBT := Lib.hid (bt_at s hlt)
          by_cases hE : bt s k = 69
          · have hE0 := hE
            clear hE0
            have ex : cX s x (k + 1) = cX s x k + 1 := by
              show cX s x k + (if bt s k = 69 then 1 else 0) = _
              rw [if_pos hE]
            have ey : cY s y (k + 1) = cY s y k := by
              show cY s y k + (if bt s k = 78 then 1 else 0) = _
              rw [if_neg (by omega)]
              omega
            have q1 : ((s[k]).toNat : Int) = 69 := by rw [← HBT.out]; exact hE
            have HOK : Hid (okW s x y (k + 1) = cellB (cX s x k + 1) (cY s y k)) := Lib.hid (by
              rw [← ex, ← ey]
              show (okW s x y k && ((bt s k == 69 || bt s k == 78) && cellB (cX s x (k + 1)) (cY s y (k + 1)))) = _
              rw [hok, hE]
              rfl)
            have HSN := Lib.hid (clF_snoc s x y k)
            rw [ex, ey] at HSN
            have HP := Lib.hid (hat.put0 (cX s x k + 1))
            have HX' := Lib.hid ex
            have HY' := Lib.hid ey
            clear hat hE ex ey HBT
            generalize cX s x k = px at *
            generalize cY s y k = py at *
            go_upto_region 14 with fail
            refine wp_nameN (fun X2 => NcAt w wa x y s X.heap.size (.slice A1 (k + 1) cc) (k + 1) (clF s x y k) (px + 1) (py) X2) HP.out ?_
            clear HP d0 d1 d2 d3 b2
            rintro X2 hat
            have d0 := hat.c0
            have d1 := hat.c1
            have HAT := Lib.hid hat
            clear hat
            have HCC : Hid (∀ w, Calls Try.prog 80 #[celV (px + 1) (py)] w (Ret w (.bool (cellB (px + 1) (py))))) := Lib.hid fun w => ncCell_any _ _ w
            rcases Bool.eq_false_or_eq_true (cellB (px + 1) (py)) with a2 | a2
            · rw [a2] at HCC HOK
              clear a2
              go_wp2_with (first | (go_at_call 80; refine (HCC.out _).mono ?_; rintro e w3 ⟨rfl, hb3⟩; have hx := HAT.out.kept0 hb3; have f0 := hx.c0; have f1 := hx.c1; have HAT3 := Lib.hid hx; clear hx hb3 d0 d1) | (refine wpList_pushC (px + 1) (py) (.tmp 48) (.tmp 50) rfl rfl wa.heap.size _ (k + 1) _ rfl HAT3.out.row w3.heap.size rfl rfl (by omega) (Nat.le_trans HAT3.out.lo (Nat.le_of_lt HAT3.out.lt)) ?_; intro v' w' hr' hg' hat'))
              rw [HSN.out] at hr'
              have HAT4 := Lib.hid (HAT3.out.push hr' hg' hat')
              obtain ⟨A2, c5, rfl⟩ := hr'.shape
              clear hr' hg' hat'
              go_wp2_with fail
              go_roundw
              case rel => exact ⟨k + 1, by omega, by go_num, HOK.out, by rw [HX'.out, HY'.out]; exact HAT4.out⟩
              case measure => first | (simp [intOf]; done) | (simp [intOf]; omega)
            · rw [a2] at HCC HOK
              clear a2
              have hno := HW.out (k + 1) HOK.out (by omega)
              have HNO := Lib.hid hno; have E1 : Hid (ncN x y s = 0) := Lib.hid (by simp [ncN, hno]); have E2 : Hid (ncX x y s = []) := Lib.hid (by simp [ncX, hno])
              clear hno
              go_wp2_with (go_at_call 80; refine (HCC.out _).mono ?_; rintro e w3 ⟨rfl, hb3⟩; have HAT3 := Lib.hid (HAT.out.kept0 hb3); clear hb3)
              go_ret2
              exact ⟨.slice none 0 0, by rw [HNO.out]; rfl, by rw [E1.out, E2.out]; exact CRow.nil _ _, HAT3.out.box.below⟩
          · by_cases hN : bt s k = 78
            · have hE := hN
              have ex : cX s x (k + 1) = cX s x k := by
                show cX s x k + (if bt s k = 69 then 1 else 0) = _
                rw [if_neg (by omega)]
                omega
              have ey : cY s y (k + 1) = cY s y k + 1 := by
                show cY s y k + (if bt s k = 78 then 1 else 0) = _
                rw [if_pos hE]
              have q1 : ((s[k]).toNat : Int) = 78 := by rw [← HBT.out]; exact hE
              have HOK : Hid (okW s x y (k + 1) = cellB (cX s x k) (cY s y k + 1)) := Lib.hid (by
                rw [← ex, ← ey]
                show (okW s x y k && ((bt s k == 69 || bt s k == 78) && cellB (cX s x (k + 1)) (cY s y (k + 1)))) = _
                rw [hok, hE]
                rfl)
              have HSN := Lib.hid (clF_snoc s x y k)
              rw [ex, ey] at HSN
              have HP := Lib.hid (hat.put1 (cY s y k + 1))
              have HX' := Lib.hid ex
              have HY' := Lib.hid ey
              clear hat hE ex ey HBT
              generalize cX s x k = px at *
              generalize cY s y k = py at *
              go_upto_region 14 with fail
              refine wp_nameN (fun X2 => NcAt w wa x y s X.heap.size (.slice A1 (k + 1) cc) (k + 1) (clF s x y k) (px) (py + 1) X2) HP.out ?_
              clear HP d0 d1 d2 d3 b2
              rintro X2 hat
              have d0 := hat.c0
              have d1 := hat.c1
              have HAT := Lib.hid hat
              clear hat
              have HCC : Hid (∀ w, Calls Try.prog 80 #[celV (px) (py + 1)] w (Ret w (.bool (cellB (px) (py + 1))))) := Lib.hid fun w => ncCell_any _ _ w
              rcases Bool.eq_false_or_eq_true (cellB (px) (py + 1)) with a2 | a2
              · rw [a2] at HCC HOK
                clear a2
                go_wp2_with (first | (go_at_call 80; refine (HCC.out _).mono ?_; rintro e w3 ⟨rfl, hb3⟩; have hx := HAT.out.kept0 hb3; have f0 := hx.c0; have f1 := hx.c1; have HAT3 := Lib.hid hx; clear hx hb3 d0 d1) | (refine wpList_pushC (px) (py + 1) (.tmp 48) (.tmp 50) rfl rfl wa.heap.size _ (k + 1) _ rfl HAT3.out.row w3.heap.size rfl rfl (by omega) (Nat.le_trans HAT3.out.lo (Nat.le_of_lt HAT3.out.lt)) ?_; intro v' w' hr' hg' hat'))
                rw [HSN.out] at hr'
                have HAT4 := Lib.hid (HAT3.out.push hr' hg' hat')
                obtain ⟨A2, c5, rfl⟩ := hr'.shape
                clear hr' hg' hat'
                go_wp2_with fail
                go_roundw
                case rel => exact ⟨k + 1, by omega, by go_num, HOK.out, by rw [HX'.out, HY'.out]; exact HAT4.out⟩
                case measure => first | (simp [intOf]; done) | (simp [intOf]; omega)
              · rw [a2] at HCC HOK
                clear a2
                have hno := HW.out (k + 1) HOK.out (by omega)
                have HNO := Lib.hid hno; have E1 : Hid (ncN x y s = 0) := Lib.hid (by simp [ncN, hno]); have E2 : Hid (ncX x y s = []) := Lib.hid (by simp [ncX, hno])
                clear hno
                go_wp2_with (go_at_call 80; refine (HCC.out _).mono ?_; rintro e w3 ⟨rfl, hb3⟩; have HAT3 := Lib.hid (HAT.out.kept0 hb3); clear hb3)
                go_ret2
                exact ⟨.slice none 0 0, by rw [HNO.out]; rfl, by rw [E1.out, E2.out]; exact CRow.nil _ _, HAT3.out.box.below⟩
            · have q1 : (((s[k]).toNat : Int) == 69) = false := by rw [← HBT.out]; exact beq_eq_false_iff_ne.2 hE
              have q2 : (((s[k]).toNat : Int) == 78) = false := by rw [← HBT.out]; exact beq_eq_false_iff_ne.2 hN
              have hno : wayB x y s = false := HW.out (k + 1) (by
                show (okW s x y k && ((bt s k == 69 || bt s k == 78) && cellB (cX s x (k + 1)) (cY s y (k + 1)))) = _
                rw [beq_eq_false_iff_ne.2 hE, beq_eq_false_iff_ne.2 hN]
                cases okW s x y k <;> rfl) (by omega)
              have HNO := Lib.hid hno; have E1 : Hid (ncN x y s = 0) := Lib.hid (by simp [ncN, hno]); have E2 : Hid (ncX x y s = []) := Lib.hid (by simp [ncX, hno])
              have HAT := Lib.hid hat
              clear hno hat hE hN
              go_wp2_with fail
              go_ret2
              exact ⟨.slice none 0 0, by rw [HNO.out]; rfl, by rw [E1.out, E2.out]; exact CRow.nil _ _, HAT.out.box.below⟩
        · obtain rfl : k = s.size := by omega
          have hyes := HY.out hok
          have e1 : ncN x y s = s.size + 1 := by unfold ncN; rw [if_pos hyes]
          have e2 : ncX x y s = clF s x y s.size := by unfold ncX; rw [if_pos hyes]
          have HYE := Lib.hid hyes
          have E1 := Lib.hid e1
          have E2 := Lib.hid e2
          have HAT := Lib.hid hat
          clear e1 e2 hyes hat
          go_wp2_with fail
          go_ret2
          exact ⟨.slice A1 (s.size + 1) cc, by rw [HYE.out]; rfl, by rw [E1.out, E2.out]; exact HAT.out.row.mono HWL.out.size, HAT.out.box.below⟩
    · have hno : wayB x y s = false := by unfold wayB; rw [decide_eq_false hlen, Bool.and_false, Bool.false_and]
      have h24 : (24 : Int) < (s.size : Int) := by omega
      have HC0 : Hid (∀ w, Calls Try.prog 80 #[celV x y] w (Ret w (.bool true))) := Lib.hid fun w => by rw [← a1]; exact ncCell_any x y w
      have HNO := Lib.hid hno; have E1 : Hid (ncN x y s = 0) := Lib.hid (by simp [ncN, hno]); have E2 : Hid (ncX x y s = []) := Lib.hid (by simp [ncX, hno])
      clear hno
      go_enter Try.func73, Try.ntmps73
      go_wp2_with (go_at_call 80; refine (HC0.out _).mono ?_; rintro e wa ⟨rfl, hba⟩; have hx := HX.out.kept hba; have r2 := hx.c2; have HX2 := Lib.hid hx; clear hx hba)
      go_ret2
      exact ⟨.slice none 0 0, by rw [HNO.out]; rfl, by rw [E1.out, E2.out]; exact CRow.nil _ _, HX2.out.below⟩
  · have hno : wayB x y s = false := by unfold wayB; rw [a1, Bool.false_and, Bool.false_and]
    have HC0 : Hid (∀ w, Calls Try.prog 80 #[celV x y] w (Ret w (.bool false))) := Lib.hid fun w => by rw [← a1]; exact ncCell_any x y w
    have HNO := Lib.hid hno; have E1 : Hid (ncN x y s = 0) := Lib.hid (by simp [ncN, hno]); have E2 : Hid (ncX x y s = []) := Lib.hid (by simp [ncX, hno])
    clear hno
    go_enter Try.func73, Try.ntmps73
    go_wp2_with (go_at_call 80; refine (HC0.out _).mono ?_; rintro e wa ⟨rfl, hba⟩; have HX2 := Lib.hid (HX.out.kept hba); clear hba)
    go_ret2
    exact ⟨.slice none 0 0, by rw [HNO.out]; rfl, by rw [E1.out, E2.out]; exact CRow.nil _ _, HX2.out.below⟩
end Go.Proofs.Ytnlmjeakdjmohaa

/- The model's IsCell, IsWay, CellsOfWay, EndOfWay, CountWays. -/
namespace Go.Proofs.Ytnlmjeakdjmohaa
open Go.RowKit
set_option linter.unusedVariables false
def ewX (x y : Int) (s : ByteArray) : Int := if wayB x y s = true then cX s x s.size else 0
def ewY (x y : Int) (s : ByteArray) : Int := if wayB x y s = true then cY s y s.size else 0
/-- a way, and an empty cell behind it -/
structure WZ (w : World) (x y : Int) (s : ByteArray) (X : World) : Prop where
  box : WBox w x y s X
  z0 : X.cell? ⟨w.heap.size + 1, 0, none⟩ = some (.int .i64 0)
  z1 : X.cell? ⟨w.heap.size + 1, 1, none⟩ = some (.int .i64 0)
  f0 : X.frozen? ⟨w.heap.size + 1, 0, none⟩ = false
  f1 : X.frozen? ⟨w.heap.size + 1, 1, none⟩ = false
  lt : w.heap.size + 1 < X.heap.size
theorem WZ.kept {w X X' : World} {x y : Int} {s : ByteArray} (h : WZ w x y s X) (hb : Below X.heap.size X X') : WZ w x y s X' :=
  ⟨h.box.kept hb, (hb.cell (p := ⟨w.heap.size + 1, 0, none⟩) h.lt).trans h.z0, (hb.cell (p := ⟨w.heap.size + 1, 1, none⟩) h.lt).trans h.z1, (hb.frozen (p := ⟨w.heap.size + 1, 0, none⟩) h.lt).trans h.f0, (hb.frozen (p := ⟨w.heap.size + 1, 1, none⟩) h.lt).trans h.f1, Nat.lt_of_lt_of_le h.lt hb.size⟩
theorem WZ.start (w : World) (x y : Int) (s : ByteArray) : WZ w x y s ((w.alloc (.cells #[.int .i64 x, .int .i64 y, .string s] 56)).alloc (.cells #[.int .i64 0, .int .i64 0] 39)) :=
  ⟨(WBox.start w x y s).kept ((Below.refl _ _).alloc (Nat.le_refl _) _), by simp [go_sem], by simp [go_sem], by simp [go_sem], by simp [go_sem], by simp⟩
theorem WZ.done {w X : World} {x y : Int} {s : ByteArray} (h : WZ w x y s X) (u v : Int) :
    ((X.setCell ⟨w.heap.size + 1, 0, none⟩ (.int .i64 u)).setCell ⟨w.heap.size + 1, 1, none⟩ (.int .i64 v)).cell? ⟨w.heap.size + 1, 0, none⟩ = some (.int .i64 u) ∧ ((X.setCell ⟨w.heap.size + 1, 0, none⟩ (.int .i64 u)).setCell ⟨w.heap.size + 1, 1, none⟩ (.int .i64 v)).cell? ⟨w.heap.size + 1, 1, none⟩ = some (.int .i64 v) ∧
    Below w.heap.size w ((X.setCell ⟨w.heap.size + 1, 0, none⟩ (.int .i64 u)).setCell ⟨w.heap.size + 1, 1, none⟩ (.int .i64 v)) :=
  ⟨(World.cell?_setCell_other _ _ _ _ (by simp)).trans (World.cell?_setCell_same' _ _ _ (by rw [h.z0]; rfl)), World.cell?_setCell_same' _ _ _ (by rw [World.cell?_setCell_other _ _ _ _ (by simp), h.z1]; rfl),
    (h.box.below.setCell (p := ⟨w.heap.size + 1, 0, none⟩) (by show w.heap.size ≤ w.heap.size + 1; omega) _).setCell (p := ⟨w.heap.size + 1, 1, none⟩) (by show w.heap.size ≤ w.heap.size + 1; omega) _⟩
end Go.Proofs.Ytnlmjeakdjmohaa
