/- Pack 34 of what FnExactAllPairsApart needs: PaS, PaK. -/
import Derived.Test.YtnlmjeakdjmohaaKFnExactAllPairsApart33
/- The model's AllPairsApart. -/
namespace Go.Proofs.Ytnlmjeakdjmohaa
open Go.RowKit
set_option linter.unusedVariables false
set_option maxRecDepth 100000 in
set_option maxHeartbeats 8000000 in
theorem specAllPairsApart_ret (a0 a1 b0 b1 c0 c1 d0 d1 : Int) (w : World) : Calls Try.prog 30 #[celV a0 a1, celV b0 b1, celV c0 c1, celV d0 d1] w (WtsRet w (apaOk a0 a1 b0 b1 c0 c1 d0 d1) (apaV a0 a1 b0 b1 c0 c1 d0 d1)) := by
  have HX := Lib.hid (Q4B.new w a0 a1 b0 b1 c0 c1 d0 d1 39)
  have H0 : Hid (∀ w, Calls Try.prog 80 #[celV a0 a1] w (Ret w (.bool (cellB a0 a1)))) := Lib.hid fun w => ncCell_any a0 a1 w
  have H1 : Hid (∀ w, Calls Try.prog 80 #[celV b0 b1] w (Ret w (.bool (cellB b0 b1)))) := Lib.hid fun w => ncCell_any b0 b1 w
  have H2 : Hid (∀ w, Calls Try.prog 80 #[celV c0 c1] w (Ret w (.bool (cellB c0 c1)))) := Lib.hid fun w => ncCell_any c0 c1 w
  have H3 : Hid (∀ w, Calls Try.prog 80 #[celV d0 d1] w (Ret w (.bool (cellB d0 d1)))) := Lib.hid fun w => ncCell_any d0 d1 w
  rcases Bool.eq_false_or_eq_true (cellB a0 a1) with p0 | p0
  case inr =>
    have hok : apaOk a0 a1 b0 b1 c0 c1 d0 d1 = false := by unfold apaOk awOk; simp [p0]
    have hv : apaV a0 a1 b0 b1 c0 c1 d0 d1 = [] := by unfold apaV; rw [hok]; rfl
    rw [hok, hv]
    rw [p0] at H0
    clear hok hv
    have ra0 := HX.out.a.c0
    have ra1 := HX.out.a.c1
    go_enter Try.func30, Try.ntmps30
    go_wp2_with fail
    refine (H0.out _).mono ?_
    rintro e y0 ⟨rfl, hb0⟩
    have HX0 := Lib.hid (HX.out.below hb0)
    clear hb0
    go_wp2_with fail
    go_ret2
    exact ⟨.slice none 0 0, [], rfl, URow.nil (Nat.le_refl _), HX0.out.bl⟩
  rcases Bool.eq_false_or_eq_true (cellB b0 b1) with p1 | p1
  case inr =>
    have hok : apaOk a0 a1 b0 b1 c0 c1 d0 d1 = false := by unfold apaOk awOk; simp [p0, p1]
    have hv : apaV a0 a1 b0 b1 c0 c1 d0 d1 = [] := by unfold apaV; rw [hok]; rfl
    rw [hok, hv]
    rw [p0] at H0
    rw [p1] at H1
    clear hok hv
    have ra0 := HX.out.a.c0
    have ra1 := HX.out.a.c1
    go_enter Try.func30, Try.ntmps30
    go_wp2_with fail
    refine (H0.out _).mono ?_
    rintro e y0 ⟨rfl, hb0⟩
    have HX0 := Lib.hid (HX.out.below hb0)
    clear hb0
    clear ra0 ra1
    have rb0 := HX0.out.b.c0
    have rb1 := HX0.out.b.c1
    go_wp2_with fail
    refine (H1.out _).mono ?_
    rintro e y1 ⟨rfl, hb1⟩
    have HX1 := Lib.hid (HX0.out.below hb1)
    clear hb1
    go_wp2_with fail
    go_ret2
    exact ⟨.slice none 0 0, [], rfl, URow.nil (Nat.le_refl _), HX1.out.bl⟩
  rcases Bool.eq_false_or_eq_true (cellB c0 c1) with p2 | p2
  case inr =>
    have hok : apaOk a0 a1 b0 b1 c0 c1 d0 d1 = false := by unfold apaOk awOk; simp [p0, p1, p2]
    have hv : apaV a0 a1 b0 b1 c0 c1 d0 d1 = [] := by unfold apaV; rw [hok]; rfl
    rw [hok, hv]
    rw [p0] at H0
    rw [p1] at H1
    rw [p2] at H2
    clear hok hv
    have ra0 := HX.out.a.c0
    have ra1 := HX.out.a.c1
    go_enter Try.func30, Try.ntmps30
    go_wp2_with fail
    refine (H0.out _).mono ?_
    rintro e y0 ⟨rfl, hb0⟩
    have HX0 := Lib.hid (HX.out.below hb0)
    clear hb0
    clear ra0 ra1
    have rb0 := HX0.out.b.c0
    have rb1 := HX0.out.b.c1
    go_wp2_with fail
    refine (H1.out _).mono ?_
    rintro e y1 ⟨rfl, hb1⟩
    have HX1 := Lib.hid (HX0.out.below hb1)
    clear hb1
    clear rb0 rb1
    have rc0 := HX1.out.c.c0
    have rc1 := HX1.out.c.c1
    go_wp2_with fail
    refine (H2.out _).mono ?_
    rintro e y2 ⟨rfl, hb2⟩
    have HX2 := Lib.hid (HX1.out.below hb2)
    clear hb2
    go_wp2_with fail
    go_ret2
    exact ⟨.slice none 0 0, [], rfl, URow.nil (Nat.le_refl _), HX2.out.bl⟩
  rcases Bool.eq_false_or_eq_true (cellB d0 d1) with p3 | p3
  case inr =>
    have hok : apaOk a0 a1 b0 b1 c0 c1 d0 d1 = false := by unfold apaOk awOk; simp [p0, p1, p2, p3]
    have hv : apaV a0 a1 b0 b1 c0 c1 d0 d1 = [] := by unfold apaV; rw [hok]; rfl
    rw [hok, hv]
    rw [p0] at H0
    rw [p1] at H1
    rw [p2] at H2
    rw [p3] at H3
    clear hok hv
    have ra0 := HX.out.a.c0
    have ra1 := HX.out.a.c1
    go_enter Try.func30, Try.ntmps30
    go_wp2_with fail
    refine (H0.out _).mono ?_
    rintro e y0 ⟨rfl, hb0⟩
    have HX0 := Lib.hid (HX.out.below hb0)
    clear hb0
    clear ra0 ra1
    have rb0 := HX0.out.b.c0
    have rb1 := HX0.out.b.c1
    go_wp2_with fail
    refine (H1.out _).mono ?_
    rintro e y1 ⟨rfl, hb1⟩
    have HX1 := Lib.hid (HX0.out.below hb1)
    clear hb1
    clear rb0 rb1
    have rc0 := HX1.out.c.c0
    have rc1 := HX1.out.c.c1
    go_wp2_with fail
    refine (H2.out _).mono ?_
    rintro e y2 ⟨rfl, hb2⟩
    have HX2 := Lib.hid (HX1.out.below hb2)
    clear hb2
    clear rc0 rc1
    have rd0 := HX2.out.d.c0
    have rd1 := HX2.out.d.c1
    go_wp2_with fail
    refine (H3.out _).mono ?_
    rintro e y3 ⟨rfl, hb3⟩
    have HX3 := Lib.hid (HX2.out.below hb3)
    clear hb3
    go_wp2_with fail
    go_ret2
    exact ⟨.slice none 0 0, [], rfl, URow.nil (Nat.le_refl _), HX3.out.bl⟩
  have HN1 : Hid (∀ w, Calls Try.prog 81 #[celV a0 a1, celV c0 c1] w (WsRet w (awB a0 a1 c0 c1) (awT a0 a1 c0 c1))) := Lib.hid fun w => ncAll_any a0 a1 c0 c1 w p0 p2
  have HN2 : Hid (∀ w, Calls Try.prog 81 #[celV b0 b1, celV d0 d1] w (WsRet w (awB b0 b1 d0 d1) (awT b0 b1 d0 d1))) := Lib.hid fun w => ncAll_any b0 b1 d0 d1 w p1 p3
  have hoF : (awB a0 a1 c0 c1 && awB b0 b1 d0 d1) = false → apaOk a0 a1 b0 b1 c0 c1 d0 d1 = false ∧ apaV a0 a1 b0 b1 c0 c1 d0 d1 = [] := fun h => by
    have h1 : apaOk a0 a1 b0 b1 c0 c1 d0 d1 = false := by
      unfold apaOk awOk
      rw [p0, p1, p2, p3, Bool.and_self, Bool.true_and, Bool.true_and, h]
      rfl
    exact ⟨h1, by unfold apaV; rw [h1]; rfl⟩
  have hoT : awB a0 a1 c0 c1 = true → awB b0 b1 d0 d1 = true → apaOk a0 a1 b0 b1 c0 c1 d0 d1 = decide ((paL (awL a0 a1 c0 c1) (awL b0 b1 d0 d1)).length ≤ 200) := fun h1 h2 => by
    unfold apaOk awOk apaL
    rw [p0, p1, p2, p3, h1, h2]
    rfl
  have HW1 : Hid (∀ k, k < (awL a0 a1 c0 c1).length → wayB (wg (awL a0 a1 c0 c1) k).1 (wg (awL a0 a1 c0 c1) k).2.1 (wg (awL a0 a1 c0 c1) k).2.2 = true) := Lib.hid fun k hk => aw_way p0 p2 hk
  have HW2 : Hid (∀ k, k < (awL b0 b1 d0 d1).length → wayB (wg (awL b0 b1 d0 d1) k).1 (wg (awL b0 b1 d0 d1) k).2.1 (wg (awL b0 b1 d0 d1) k).2.2 = true) := Lib.hid fun k hk => aw_way p1 p3 hk
  have HT1 : Hid (awB a0 a1 c0 c1 = true → awT a0 a1 c0 c1 = awL a0 a1 c0 c1) := Lib.hid fun h => by unfold awT; rw [if_pos h]
  have HT2 : Hid (awB b0 b1 d0 d1 = true → awT b0 b1 d0 d1 = awL b0 b1 d0 d1) := Lib.hid fun h => by unfold awT; rw [if_pos h]
  have HLL : Hid (awB a0 a1 c0 c1 = true → awB b0 b1 d0 d1 = true → (awL a0 a1 c0 c1).length ≤ 200 ∧ (awL b0 b1 d0 d1).length ≤ 200) := Lib.hid fun h1 h2 => by
    unfold awB at h1 h2
    rw [decide_eq_true_eq] at h1 h2
    have e1 := tx_len p0 p2
    have e2 := tx_len p1 p3
    unfold awL txM
    rw [List.length_map, List.length_map, List.length_map, List.length_map]
    omega
  have HOF := Lib.hid hoF
  have HOT := Lib.hid hoT
  rw [p0] at H0
  rw [p1] at H1
  rw [p2] at H2
  rw [p3] at H3
  have HV : Hid (apaOk a0 a1 b0 b1 c0 c1 d0 d1 = true → apaV a0 a1 b0 b1 c0 c1 d0 d1 = paL (awL a0 a1 c0 c1) (awL b0 b1 d0 d1)) := Lib.hid fun h => by unfold apaV; rw [if_pos h]; rfl
  have HV0 : Hid (apaOk a0 a1 b0 b1 c0 c1 d0 d1 = false → apaV a0 a1 b0 b1 c0 c1 d0 d1 = []) := Lib.hid fun h => by unfold apaV; rw [h]; rfl
  clear p0 p1 p2 p3 hoF hoT
  generalize apaOk a0 a1 b0 b1 c0 c1 d0 d1 = OK at *
  generalize apaV a0 a1 b0 b1 c0 c1 d0 d1 = VV at *
  generalize awL a0 a1 c0 c1 = L1 at *
  generalize awL b0 b1 d0 d1 = L2 at *
  generalize awT a0 a1 c0 c1 = T1 at *
  generalize awT b0 b1 d0 d1 = T2 at *
  generalize awB a0 a1 c0 c1 = bb1 at *
  generalize awB b0 b1 d0 d1 = bb2 at *
  have ra0 := HX.out.a.c0
  have ra1 := HX.out.a.c1
  go_enter Try.func30, Try.ntmps30
  go_wp2_with fail
  refine (H0.out _).mono ?_
  rintro e y0 ⟨rfl, hb0⟩
  have HX0 := Lib.hid (HX.out.below hb0)
  clear hb0
  clear ra0 ra1
  have rb0 := HX0.out.b.c0
  have rb1 := HX0.out.b.c1
  go_wp2_with fail
  refine (H1.out _).mono ?_
  rintro e y1 ⟨rfl, hb1⟩
  have HX1 := Lib.hid (HX0.out.below hb1)
  clear hb1
  clear rb0 rb1
  have rc0 := HX1.out.c.c0
  have rc1 := HX1.out.c.c1
  go_wp2_with fail
  refine (H2.out _).mono ?_
  rintro e y2 ⟨rfl, hb2⟩
  have HX2 := Lib.hid (HX1.out.below hb2)
  clear hb2
  clear rc0 rc1
  have rd0 := HX2.out.d.c0
  have rd1 := HX2.out.d.c1
  go_wp2_with fail
  refine (H3.out _).mono ?_
  rintro e y3 ⟨rfl, hb3⟩
  have HX3 := Lib.hid (HX2.out.below hb3)
  clear hb3
  clear rd0 rd1
  have ra0 := HX3.out.a.c0
  have ra1 := HX3.out.a.c1
  have rc0 := HX3.out.c.c0
  have rc1 := HX3.out.c.c1
  go_wp2_with fail
  refine (HN1.out _).mono ?_
  rintro e y5 ⟨v1, rfl, hw1, hb5⟩
  have HX5 := Lib.hid (HX3.out.below hb5)
  have HR1 := Lib.hid hw1
  clear ra0 ra1 rc0 rc1 hb5
  obtain ⟨A1, q1, rfl⟩ := hw1.shape
  clear hw1
  have rb0 := HX5.out.b.c0
  have rb1 := HX5.out.b.c1
  have rd0 := HX5.out.d.c0
  have rd1 := HX5.out.d.c1
  go_wp2_with fail
  refine (HN2.out _).mono ?_
  rintro e y6 ⟨v2, rfl, hw2, hb6⟩
  have HX6 := Lib.hid (HX5.out.below hb6)
  have HR1 := Lib.hid (HR1.out.below hb6)
  have HR2 := Lib.hid hw2
  clear rb0 rb1 rd0 rd1 hb6
  obtain ⟨A2, q2, rfl⟩ := hw2.shape
  clear hw2
  cases bb1 with
  | false =>
    obtain ⟨e1, e2⟩ := HOF.out rfl
    subst e1 e2
    go_wp2_with fail
    go_ret2
    exact ⟨.slice none 0 0, [], rfl, URow.nil (Nat.le_refl _), HX6.out.bl⟩
  | true =>
  cases bb2 with
  | false =>
    obtain ⟨e1, e2⟩ := HOF.out rfl
    subst e1 e2
    go_wp2_with fail
    go_ret2
    exact ⟨.slice none 0 0, [], rfl, URow.nil (Nat.le_refl _), HX6.out.bl⟩
  | true =>
  obtain rfl := HT1.out rfl
  obtain rfl := HT2.out rfl
  have HOK := Lib.hid (HOT.out rfl rfl)
  obtain ⟨hl1, hl2⟩ := HLL.out rfl rfl
  obtain ⟨n1, hn1⟩ : ∃ n1, T1.length = n1 := ⟨_, rfl⟩
  obtain ⟨n2, hn2⟩ : ∃ n2, T2.length = n2 := ⟨_, rfl⟩
  have HN1 := Lib.hid hn1
  have HN2 := Lib.hid hn2
  rw [hn1] at HR1 hl1 HW1 ⊢
  rw [hn2] at HR2 hl2 HW2 ⊢
  have HFL : Hid (200 < (paL T1 T2).length → OK = false ∧ VV = []) := Lib.hid fun h => by
    have h1 : OK = false := by rw [HOK.out, decide_eq_false (by omega)]
    exact ⟨h1, HV0.out h1⟩
  have HTR : Hid ((paL T1 T2).length ≤ 200 → OK = true ∧ VV = paL T1 T2) := Lib.hid fun h => by
    have h1 : OK = true := by rw [HOK.out, decide_eq_true h]
    exact ⟨h1, HV.out h1⟩
  clear hn1 hn2 HOF HOT HV HV0 HT1 HT2 HLL HOK
  go_wp2_with fail
  go_loopw [14, 60] (fun o i wr => ∃ k : Nat, k ≤ n1 ∧ i = .int .i64 (k : Int) ∧ PaO y6 o (paL (T1.take k) T2) wr ∧ (paL (T1.take k) T2).length ≤ 200) (fun _ i _ => n1 - (intOf i).toNat)
  case atStart => exact ⟨0, Nat.zero_le _, rfl, by rw [paL_zero]; exact PaO.start y6, by rw [paL_zero]; exact Nat.zero_le _⟩
  case round =>
    obtain ⟨k, hk, rfl, hpo, hlen⟩ := hrel
    obtain ⟨Ao, co, rfl⟩ := hpo.shape
    by_cases hlt : k < n1
    · obtain ⟨w0, rfl⟩ : ∃ w0 : World, w0 = wr := ⟨_, rfl⟩
      obtain ⟨g1, cc1, hv, -, -⟩ := HR1.out.form HN1.out (by omega)
      injection hv with hA _ hcc
      subst hA
      subst hcc
      have hc := (HR1.out.below hpo.bl).cell (j := k) (by rw [HN1.out]; exact hlt)
      obtain ⟨x, y, s, hw⟩ : ∃ x y s, wg T1 k = (x, y, s) := ⟨_, _, _, rfl⟩
      have hway := HW1.out k hlt
      rw [hw] at hc hway
      obtain ⟨e0, e1, e2⟩ := hc
      have hsz : s.size ≤ 24 := aw_size hway
      have HJ0 : Hid (PaJ y6 (.slice Ao (paL (T1.take k) T2).length co) (paL (T1.take k) T2 ++ paR (T2.take 0) (x, y, s)) w0.heap.size x y s (w0.alloc (.cells #[.int .i64 x, .int .i64 y, .string s] 56))) := Lib.hid (by
        rw [paR_zero, List.append_nil]
        exact ⟨hpo.below ((Below.refl _ _).alloc (Nat.le_refl _) _), WB.new w0 x y s 56, fun q hq e => by have := (hpo.blk q hq).2; omega⟩)
      have HL0 : Hid ((paL (T1.take k) T2 ++ paR (T2.take 0) (x, y, s)).length ≤ 200) := Lib.hid (by rw [paR_zero, List.append_nil]; exact hlen)
      have HPART : Hid (∀ j, (paL (T1.take k) T2 ++ paR (T2.take j) (x, y, s)).length ≤ (paL T1 T2).length) := Lib.hid fun j => by
        have := paL_part (A := T1) (B := T2) (k := k) (by rw [HN1.out]; exact hlt) j
        rwa [hw] at this
      have HEND : Hid (paL (T1.take (k + 1)) T2 = paL (T1.take k) T2 ++ paR T2 (x, y, s)) := Lib.hid (by rw [paL_take T1 T2 (by rw [HN1.out]; exact hlt), hw])
      have HAL : Hid (Below y6.heap.size y6 w0) := Lib.hid hpo.bl
      have i1 : (k : Int) < (n1 : Int) := by omega
      clear hpo hw hway
      generalize paL (T1.take k) T2 = PK at *
      obtain ⟨pl, hpl⟩ : ∃ pl, pl = PK.length := ⟨_, rfl⟩
      rw [← hpl] at HJ0 ⊢
      clear hpl
      go_wp2_with fail
      go_loopw [14, 66] (fun o i wq => ∃ j : Nat, j ≤ n2 ∧ i = .int .i64 (j : Int) ∧ PaJ y6 o (PK ++ paR (T2.take j) (x, y, s)) w0.heap.size x y s wq ∧ (PK ++ paR (T2.take j) (x, y, s)).length ≤ 200) (fun _ i _ => n2 - (intOf i).toNat)
      case atStart => exact ⟨0, Nat.zero_le _, rfl, HJ0.out, HL0.out⟩
      case round =>
        obtain ⟨j, hj, rfl, hpj, hlj⟩ := hrel
        obtain ⟨Aj, cj, rfl⟩ := hpj.l.shape
        clear HJ0 HL0 e0 e1 e2
        by_cases hltj : j < n2
        · obtain ⟨g2, cc2, hv, -, -⟩ := HR2.out.form HN2.out (by omega)
          injection hv with hA _ hcc
          subst hA
          subst hcc
          have hc := (HR2.out.below hpj.l.bl).cell (j := j) (by rw [HN2.out]; exact hltj)
          obtain ⟨u, v, t, hw⟩ : ∃ u v t, wg T2 j = (u, v, t) := ⟨_, _, _, rfl⟩
          have hway := HW2.out j hltj
          rw [hw] at hc hway
          obtain ⟨f0, f1, f2⟩ := hc
          have hsz2 : t.size ≤ 24 := aw_size hway
          have j1 : (j : Int) < (n2 : Int) := by omega
          have HM : Hid (∀ W, Calls Try.prog 82 #[wayV x y s, wayV u v t] W (Ret W (mtV (mtR x y s u v t)))) := Lib.hid fun W => ncMeet_any x y u v s t W (by unfold maxLen; omega) (by unfold maxLen; omega)
          have HJA := Lib.hid (hpj.below ((Below.refl _ _).alloc (Nat.le_refl _) (.cells #[.int .i64 u, .int .i64 v, .string t] 56)))
          have HWB := Lib.hid (WB.new wr u v t 56)
          have HYES : Hid (mtB (x, y, s) (wg T2 j) = true → paR (T2.take (j + 1)) (x, y, s) = paR (T2.take j) (x, y, s)) := Lib.hid fun h => paR_meet (by rw [HN2.out]; exact hltj) h
          have HNO : Hid (mtB (x, y, s) (wg T2 j) = false → paR (T2.take (j + 1)) (x, y, s) = paR (T2.take j) (x, y, s) ++ [[(x, y, s), (u, v, t)]]) := Lib.hid fun h => by rw [paR_apart (by rw [HN2.out]; exact hltj) h, hw]
          have HMB : Hid (mtB (x, y, s) (wg T2 j) = (mtR x y s u v t).isSome) := Lib.hid (by rw [hw]; rfl)
          have HP1 := Lib.hid (HPART.out (j + 1))
          have k0 := HJA.out.v.c0
          have k1 := HJA.out.v.c1
          have k2 := HJA.out.v.c2
          have m0 := hpj.v.c0
          have m1 := hpj.v.c1
          have m2 := hpj.v.c2
          have hbw := hpj.v.lt
          clear hpj hw hway HPART
          generalize hPJ : paR (T2.take j) (x, y, s) = PJ at *
          generalize hPJ1 : paR (T2.take (j + 1)) (x, y, s) = PJ1 at *
          obtain ⟨ql, hql⟩ : ∃ ql, ql = (PK ++ PJ).length := ⟨_, rfl⟩
          rw [← hql] at HJA ⊢
          have HQL := Lib.hid hql
          have hqb : ql ≤ 200 := by omega
          have HPJ1 := Lib.hid hPJ1
          clear hql hPJ hPJ1
          go_wp2_with fail
          refine (HM.out _).mono ?_
          rintro e w3 ⟨rfl, hb3⟩
          have HJ3 := Lib.hid (HJA.out.below hb3)
          have HW3 := Lib.hid (HWB.out.below hb3)
          have HLT : Hid (w0.heap.size < w3.heap.size) := Lib.hid (HJA.out.below hb3).v.lt
          clear k0 k1 k2 m0 m1 m2 f0 f1 f2 hb3 HM
          cases hmt : mtR x y s u v t with
          | some ij =>
            obtain ⟨i', j'⟩ := ij
            have HE := Lib.hid (HYES.out (by rw [HMB.out, hmt]; rfl))
            rw [show mtV (some (i', j')) = .tuple #[.int .i64 (i' : Int), .int .i64 (j' : Int), .bool true] from rfl]
            clear hmt HMB HYES HNO
            go_wp2_with fail
            go_roundw
            case rel => exact ⟨j + 1, by omega, by go_num, by rw [HPJ1.out, HE.out]; exact HJ3.out, by rw [HPJ1.out, HE.out, ← HQL.out]; exact hqb⟩
            case measure => first | (simp [intOf]; done) | (simp [intOf]; omega)
          | none =>
            have HE := Lib.hid (HNO.out (by rw [HMB.out, hmt]; rfl))
            rw [show mtV none = .tuple #[.int .i64 0, .int .i64 0, .bool false] from rfl]
            obtain ⟨M, vs, hu, hM⟩ := HJ3.out.l.ex
            have hvl : vs.length ≤ 2000000 := by rw [hu.len, ← HQL.out]; omega
            have HU := Lib.hid hu
            have m0 := HJ3.out.v.c0
            have m1 := HJ3.out.v.c1
            have m2 := HJ3.out.v.c2
            have f0 := HW3.out.c0
            have f1 := HW3.out.c1
            have f2 := HW3.out.c2
            have hszw := HJ3.out.l.bl.size
            clear hmt HMB HYES HNO hu
            go_wp2_with (at_builtin; refine wpList_pushX (.tmp 78) (.tmp 82) rfl rfl y6.heap.size _ vs rfl ((HU.out.out.alloc _).alloc _) (w3.heap.size + 1) (.slice (some ⟨w3.heap.size, 0, none⟩) 2 2) rfl (by simp [go_sem]) rfl hvl (by simp; omega) ?_; intro v3 w4 hr3 hg3 hat3)
            have HJ4 := Lib.hid (HJ3.out.push HU.out hM hr3 hg3 hat3)
            obtain ⟨A4, c4, rfl⟩ := HJ4.out.l.shape
            have HLN : Hid ((PK ++ PJ ++ [[(x, y, s), (u, v, t)]]).length = ql + 1) := Lib.hid (by rw [List.length_append, ← HQL.out]; rfl)
            have hj5 := HJ4.out
            rw [HLN.out] at hj5 ⊢
            have HJ5 := Lib.hid hj5
            clear hj5
            clear hr3 hg3 hat3 m0 m1 m2 f0 f1 f2
            go_simp
            go_wp2_with fail
            · have hbig : ql = 200 := by omega
              obtain ⟨eo, ev⟩ := HFL.out (by have h1 := HP1.out; rw [HE.out, ← List.append_assoc, HLN.out] at h1; omega)
              go_ret2
              exact ⟨.slice none 0 0, [], by rw [eo]; rfl, by rw [ev]; exact URow.nil (Nat.le_refl _), HX6.out.bl.trans (HJ4.out.l.bl.mono HX6.out.bl.size)⟩
            · go_roundw
              case rel => exact ⟨j + 1, by omega, by go_num, by rw [HPJ1.out, HE.out, ← List.append_assoc]; exact HJ5.out, by rw [HPJ1.out, HE.out, ← List.append_assoc, HLN.out]; omega⟩
              case measure => first | (simp [intOf]; done) | (simp [intOf]; omega)
        · have HK : Hid (j = n2) := by unfold Hid; omega
          have HTT : Hid (T2.take j = T2) := Lib.hid (by rw [HK.out, ← HN2.out, List.take_length])
          have HJ := Lib.hid hpj
          have hjb : decide ((j : Int) < (n2 : Int)) = false := decide_eq_false (by omega)
          clear hpj
          obtain ⟨ql, hql⟩ : ∃ ql, ql = (PK ++ paR (T2.take j) (x, y, s)).length := ⟨_, rfl⟩
          rw [← hql] at HJ ⊢
          clear hql
          go_wp2_with fail
          go_roundw
          case rel => exact ⟨k + 1, by omega, by go_num, by rw [HEND.out, ← HTT.out]; exact HJ.out.l, by rw [HEND.out, ← HTT.out]; exact hlj⟩
          case measure => first | (simp [intOf]; done) | (simp [intOf]; omega)
    · have HK : Hid (k = n1) := by unfold Hid; omega
      have HTT : Hid (T1.take k = T1) := Lib.hid (by rw [HK.out, ← HN1.out, List.take_length])
      have HTF := HTR.out (by rw [← HTT.out]; exact hlen)
      obtain ⟨eo, ev⟩ := HTF
      have HEO := Lib.hid eo
      have HEV := Lib.hid ev
      have HP := Lib.hid hpo
      have hjb : decide ((k : Int) < (n1 : Int)) = false := decide_eq_false (by omega)
      clear hpo eo ev
      obtain ⟨ql, hql⟩ : ∃ ql, ql = (paL (T1.take k) T2).length := ⟨_, rfl⟩
      rw [← hql] at HP ⊢
      clear hql
      go_wp2_with fail
      go_ret2
      obtain ⟨M, vs, hu, hM⟩ := HP.out.ex
      exact ⟨_, vs, by rw [HEO.out]; rfl, by rw [HEV.out, ← HTT.out]; exact hu.mono (Nat.le_trans HX6.out.bl.size (Nat.le_refl _)) hu.size (Nat.le_refl _), HX6.out.bl.trans (HP.out.bl.mono HX6.out.bl.size)⟩
end Go.Proofs.Ytnlmjeakdjmohaa

/- AllPairsApart of the program: what is kept while the ways for one way are gone through. -/
namespace Go.Proofs.Ytnlmjeakdjmohaa
open Go.RowKit
set_option linter.unusedVariables false
/-- the list so far, the way in its box at lo, the ways that go with it in a block behind lo, all made ahead of hi -/
structure PaK (y2 : World) (o : Value) (P : List (List Wy)) (lo hi : Nat) (x y : Int) (s : ByteArray) (vW : Value) (WL : List Wy) (X : World) : Prop where
  l : PaO y2 o P X
  v : WB lo x y s X
  r : WRow X (lo + 1) vW WL
  ne : ∀ q, o.ownBlock = some q → q < lo ∨ hi ≤ q
  lh : lo < hi
  rb : ∀ q, vW.ownBlock = some q → q < hi
  hs : hi ≤ X.heap.size
theorem PaK.below {y2 : World} {o : Value} {P : List (List Wy)} {lo hi : Nat} {x y : Int} {s : ByteArray} {vW : Value} {WL : List Wy} {X X' : World} (h : PaK y2 o P lo hi x y s vW WL X) (hb : Below X.heap.size X X') : PaK y2 o P lo hi x y s vW WL X' :=
  ⟨h.l.below hb, h.v.below hb, h.r.below hb, h.ne, h.lh, h.rb, Nat.le_trans h.hs hb.size⟩
theorem PaK.push {y2 X w3 : World} {o v3 : Value} {P : List (List Wy)} {lo hi : Nat} {x y : Int} {s : ByteArray} {vW : Value} {WL : List Wy} {M : Nat} {vs : List Value} {p q u v : Int} {z t : ByteArray} {ob : Obj} (h : PaK y2 o P lo hi x y s vW WL X) (hu : URow X y2.heap.size M o vs P) (hM : y2.heap.size ≤ M)
    (hr : XRow w3 y2.heap.size v3 (vs ++ [.slice (some ⟨X.heap.size, 0, none⟩) 2 2]))
    (hg : ((X.alloc (.cells #[.int .i64 p, .int .i64 q, .string z, .int .i64 u, .int .i64 v, .string t] 56)).alloc ob).grownBy w3 o.ownBlock)
    (hat : v3.ownBlock = o.ownBlock ∨ ∃ g, v3.ownBlock = some g ∧ ((X.alloc (.cells #[.int .i64 p, .int .i64 q, .string z, .int .i64 u, .int .i64 v, .string t] 56)).alloc ob).heap.size ≤ g) :
    PaK y2 v3 (P ++ [[(p, q, z), (u, v, t)]]) lo hi x y s vW WL w3 ∧ X.grownBy w3 o.ownBlock := by
  obtain ⟨h1, h2, h3⟩ := pa_push hu hM h.l.bl hr hg hat
  have hn := h.lh
  refine ⟨⟨h1, h.v.grown h2 (fun a ha e => by have := h.ne a ha; omega), h.r.apart h2 (fun a ha e => ?_), fun a ha => ?_, h.lh, h.rb, Nat.le_trans h.hs h2.size⟩, h2⟩
  · have k1 := h.ne a e.symm
    have k2 := h.rb a ha
    have k3 := (h.r.blk a ha).1
    omega
  · rcases h3 a ha with h4 | h4
    · exact h.ne a h4
    · exact .inr (Nat.le_trans h.hs h4)
end Go.Proofs.Ytnlmjeakdjmohaa
