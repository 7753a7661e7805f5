/- Pack 33 of what FnFansAndCubes needs: DtI, DmtI, EqP. -/
import Derived.Test.YtmfcknlpbliehabKFnFansAndCubes32
import Derived.ChangeKeysEq
/- withoutColumn, determinant of the program. -/
namespace Go.Proofs.Ytmfcknlpbliehab
open Go.RowKit
set_option linter.unusedVariables false
def cutC (j : Nat) (r : List Int) : List Int := r.take j ++ r.drop (j + 1)
theorem minr_cut (xss : List (List Int)) (j : Nat) : minr xss j = (xss.drop 1).map (cutC j) := rfl
theorem lrows_two {W : World} {s1 s2 : Value} {xs ys : List Int} (h1 : RInts W s1 xs) (h2 : RInts W s2 ys) : LRows (W.alloc (.cells #[s1, s2] 24)) (.slice (some ⟨W.heap.size, 0, none⟩) 2 2) [xs, ys] :=
  ⟨⟨_, _, rfl⟩, fun _ => ⟨W.heap.size, 0, 2, rfl, by simp, fun j hj => by
    have hb : Below W.heap.size W (W.alloc (.cells #[s1, s2] 24)) := (Below.refl _ _).alloc (Nat.le_refl _) _
    match j, hj with
    | 0, _ => exact ⟨s1, by simp [go_sem], h1.below hb⟩
    | 1, _ => exact ⟨s2, by simp [go_sem], h2.below hb⟩⟩⟩
/-- the rows without one column, each in a block of its own -/
def CutRet (w : World) (j : Nat) (yss : List (List Int)) (e : Ending) (w' : World) : Prop :=
  ∃ (x : Value) (M : Nat) (vs : List Value), e = .returned x ∧ TRow w' w.heap.size M x vs (yss.map (cutC j)) ∧ w.heap.size ≤ M ∧ Below w.heap.size w w'
set_option maxRecDepth 100000 in
set_option maxHeartbeats 4000000 in
theorem cut_any (v : Value) (yss : List (List Int)) (n j : Nat) (w : World) (h : MRows w v yss) (hj : j < n + 1) (hn : n ≤ 8) (hy : yss.length ≤ 8) (hl : ∀ i, i < yss.length → (yss.getD i []).length = n + 1) :
    Calls Try.prog 75 #[v, .int .i64 (j : Int)] w (CutRet w j yss) := by
  have HM := Lib.hid h
  obtain ⟨A0, cap, rfl⟩ := h.rows.shape
  have HL := Lib.hid hl
  clear h hl
  go_enter Try.func75, Try.ntmps75
  go_wp2_with fail
  go_loopw [5, 10] (fun l i wz => ∃ (p M : Nat) (vs : List Value), p ≤ yss.length ∧ i = .int .i64 (p : Int) ∧ TRow wz w.heap.size M l vs ((yss.map (cutC j)).take p) ∧ w.heap.size ≤ M ∧ Below w.heap.size w wz) (fun _ i _ => yss.length - (intOf i).toNat)
  case atStart => exact ⟨0, w.heap.size, [], Nat.zero_le _, rfl, TRow.nil (Nat.le_refl _), Nat.le_refl _, Below.refl _ _⟩
  case round =>
    obtain ⟨p, M, vs, hp, rfl, htr, hM, hbz⟩ := hrel
    obtain ⟨A, cl, rfl⟩ := htr.out.shape
    by_cases hlp : p < yss.length
    · obtain ⟨g, o, c, hv, hg, hcells⟩ := HM.out.rows.cells (by omega)
      have hA : A0 = some ⟨g, o, none⟩ := by injection hv
      subst hA
      clear hv
      obtain ⟨u, e0, hu⟩ := hcells p hlp
      have r1 := (hbz.cell (p := ⟨g, o + p, none⟩) hg).trans e0
      have hri := HL.out p hlp
      obtain ⟨gi, oi, ci, rfl, r4, hci5⟩ := hu.cells (by omega)
      obtain ⟨m1, m2⟩ := hu.room _ _ _ rfl
      have R5 : Hid (∀ w1, Below w.heap.size w w1 → ∀ i, i < n + 1 → w1.cell? ⟨gi, oi + i, none⟩ = some (.int .i64 ((yss.getD p []).getD i 0))) := Lib.hid fun w1 hb1 i hi => (hb1.cell (p := ⟨gi, oi + i, none⟩) r4).trans (hci5 i (by omega))
      have hvl : vs.length = p := by rw [htr.len, List.length_take, List.length_map]; omega
      have i2 : (p : Int) < (yss.length : Int) := by omega
      have HMR : Hid ((yss.map (cutC j)).take (p + 1) = (yss.map (cutC j)).take p ++ [cutC j (yss.getD p [])]) := Lib.hid (by
        rw [List.take_succ_eq_append_getElem (by rw [List.length_map]; exact hlp), List.getElem_map, List.getD_eq_getElem?_getD, List.getElem?_eq_getElem hlp]
        rfl)
      have HT := Lib.hid htr
      have HBZ := Lib.hid hbz
      have hMw := htr.size
      have hbd : Below wr.heap.size wr wr.drew := (Below.refl _ _).drew
      have HVL := Lib.hid hvl
      rw [hri] at r1 m1
      have hsz := hbz.size
      have HLR := Lib.hid hri
      clear htr hbz hcells hci5 e0 hu hri hvl
      generalize yss.getD p [] = r at *
      have i3 : (j : Int) + 1 ≤ (n : Int) + 1 := by omega
      have i4 : (n : Int) + 1 ≤ (ci : Int) := by omega
      have i5 : (j : Int) ≤ (ci : Int) := by omega
      have i6 : (j : Int) + 1 ≤ (ci : Int) := by omega
      have i8 : (j : Int) ≤ (n : Int) + 1 := by omega
      have HVB : Hid (vs.length ≤ 2000000) := Lib.hid (by rw [HVL.out]; omega)
      have HWZ : Hid (∀ x : World, wr.heap.size ≤ x.heap.size → ∀ ob, w.heap.size ≤ (x.alloc ob).heap.size) := Lib.hid fun x hx ob => by simp; omega
      have k1 := IntWalk.i64_in ((j : Int) + 1) (by omega)
      have k2 : 0 ≤ (j : Int) + 1 := by omega
      have k3 : ((j : Int) + 1).toNat = j + 1 := by omega
      have HS1 : Hid (∀ w1, Below wr.heap.size wr w1 → RInts w1 (.slice (some ⟨gi, oi, none⟩) j ci) (r.take j)) := Lib.hid fun w1 hb1 => by
        have hbw := HBZ.out.trans (hb1.mono hsz)
        have := RInts.part (w := w1) (g := gi) (o := oi) (c := ci) (xs := r) 0 j ci (Nat.lt_of_lt_of_le r4 hbw.size) (fun i hi => R5.out w1 hbw i (by have := HLR.out; omega)) (r.take j) (by simp) (by rw [HLR.out]; omega) (by omega) (by omega)
        rwa [Nat.add_zero] at this
      by_cases hci : ci = j + 1
      · have HS2 : Hid (∀ w1 A, Below wr.heap.size wr w1 → RInts w1 (.slice A 0 0) (r.drop (j + 1))) := Lib.hid fun w1 A hb1 => by
          rw [List.drop_of_length_le (by rw [HLR.out]; omega)]
          exact rints_empty _ _ _ (by unfold maxLen; omega)
        have HJ : Hid (∀ w1, Below wr.heap.size wr w1 → Calls Try.prog 39 #[.slice (some ⟨w1.heap.size, 0, none⟩) 2 2] (w1.alloc (.cells #[.slice (some ⟨gi, oi, none⟩) j (j + 1), .slice (some ⟨gi, oi, none⟩) 0 0] 24)) (IntsNew (w1.alloc (.cells #[.slice (some ⟨gi, oi, none⟩) j (j + 1), .slice (some ⟨gi, oi, none⟩) 0 0] 24)) (cutC j r))) := Lib.hid fun w1 hb1 => by
          have h1 := HS1.out w1 hb1
          rw [hci] at h1
          have := joinLists_any _ _ _ (lrows_two h1 (HS2.out w1 (some ⟨gi, oi, none⟩) hb1)) (by simp) (by simp; have := HLR.out; omega)
          simpa [cutC] using this
        subst hci
        have i7 : (j : Int) ≤ (j : Int) + 1 := by omega
        go_wp2_with fail
        go_region_law (first
          | (go_simp; go_at_call 39; refine (HJ.out _ hbd).mono ?_; rintro e w1 ⟨v1, rfl, hr1, hb1⟩; have hb2 : Below wr.heap.size wr w1 := hbd.trans (((Below.refl _ _).alloc (Nat.le_refl _) _).trans (hb1.mono (by simp))); have ht3 := HT.out.below hb2; have hz3 := hb2.size; obtain ⟨A2, c2, rfl⟩ := hr1.shape)
          | (refine step_pushV (.tmp 14) (.tmp 24) rfl rfl w.heap.size _ vs (by rfl) (ht3.out.alloc _) w1.heap.size _ (by rfl) (by simp; rfl) rfl HVB.out (HWZ.out _ hz3 _) ?_; intro v3 w3' hr3 hg3 hat3))
        have hgl := grown_alloc_left hg3
        have hr1M : IRow w1 M (.slice A2 (cutC j r).length c2) (cutC j r) := hr1.mono (by simp; omega)
        have HT3 := Lib.hid (ht3.push hr1M hM hr3 hgl (hat_alloc' hat3))
        have HB3 := Lib.hid ((HBZ.out.trans (hb2.mono hsz)).grown hgl (Nat.le_trans hsz hz3) (fun q hq => (ht3.outB q hq).1))
        clear ht3 hr1 hr1M hr3 hgl hat3 hg3 k1 k2 k3 hb1 hb2
        go_wp2_with fail
        exact ⟨⟨p + 1, w3'.heap.size, _, by omega, by go_num, by rw [HMR.out]; exact HT3.out, HB3.out.size, HB3.out⟩, by simp [intOf]; omega⟩
      · have HS2 : Hid (∀ w1, Below wr.heap.size wr w1 → RInts w1 (.slice (some ⟨gi, oi + (j + 1), none⟩) (n - j) (ci - (j + 1))) (r.drop (j + 1))) := Lib.hid fun w1 hb1 => by
          have hbw := HBZ.out.trans (hb1.mono hsz)
          exact RInts.part (c := ci) (j + 1) (n - j) (ci - (j + 1)) (Nat.lt_of_lt_of_le r4 hbw.size) (fun i hi => by
            rw [HLR.out] at hi
            exact R5.out w1 hbw i hi) _ (by rw [List.take_of_length_le (by rw [List.length_drop, HLR.out]; omega)]) (by rw [HLR.out]; omega) (by omega) (by omega)
        have HJ : Hid (∀ w1, Below wr.heap.size wr w1 → Calls Try.prog 39 #[.slice (some ⟨w1.heap.size, 0, none⟩) 2 2] (w1.alloc (.cells #[.slice (some ⟨gi, oi, none⟩) j ci, .slice (some ⟨gi, oi + (j + 1), none⟩) (n - j) (ci - (j + 1))] 24)) (IntsNew (w1.alloc (.cells #[.slice (some ⟨gi, oi, none⟩) j ci, .slice (some ⟨gi, oi + (j + 1), none⟩) (n - j) (ci - (j + 1))] 24)) (cutC j r))) := Lib.hid fun w1 hb1 => by
          have := joinLists_any _ _ _ (lrows_two (HS1.out w1 hb1) (HS2.out w1 hb1)) (by simp) (by simp; have := HLR.out; omega)
          simpa [cutC] using this
        go_wp2_with fail
        go_region_law (first
          | (go_simp; go_at_call 39; refine (HJ.out _ hbd).mono ?_; rintro e w1 ⟨v1, rfl, hr1, hb1⟩; have hb2 : Below wr.heap.size wr w1 := hbd.trans (((Below.refl _ _).alloc (Nat.le_refl _) _).trans (hb1.mono (by simp))); have ht3 := HT.out.below hb2; have hz3 := hb2.size; obtain ⟨A2, c2, rfl⟩ := hr1.shape)
          | (refine step_pushV (.tmp 14) (.tmp 24) rfl rfl w.heap.size _ vs (by rfl) (ht3.out.alloc _) w1.heap.size _ (by rfl) (by simp; rfl) rfl HVB.out (HWZ.out _ hz3 _) ?_; intro v3 w3' hr3 hg3 hat3))
        have hgl := grown_alloc_left hg3
        have hr1M : IRow w1 M (.slice A2 (cutC j r).length c2) (cutC j r) := hr1.mono (by simp; omega)
        have HT3 := Lib.hid (ht3.push hr1M hM hr3 hgl (hat_alloc' hat3))
        have HB3 := Lib.hid ((HBZ.out.trans (hb2.mono hsz)).grown hgl (Nat.le_trans hsz hz3) (fun q hq => (ht3.outB q hq).1))
        clear ht3 hr1 hr1M hr3 hgl hat3 hg3 k1 k2 k3 hb1 hb2
        go_wp2_with fail
        exact ⟨⟨p + 1, w3'.heap.size, _, by omega, by go_num, by rw [HMR.out]; exact HT3.out, HB3.out.size, HB3.out⟩, by simp [intOf]; omega⟩
    · have e2 : (yss.map (cutC j)).take p = yss.map (cutC j) := List.take_of_length_le (by rw [List.length_map]; omega)
      rw [e2] at htr
      have HT := Lib.hid htr
      have HB := Lib.hid hbz
      have i2 : ¬ (p : Int) < (yss.length : Int) := by omega
      clear htr hbz e2
      go_wp2_with fail
      go_ret
      exact ⟨_, M, vs, rfl, HT.out, hM, HB.out⟩
theorem mrows_nil (w : World) (a : Option Addr) (c : Nat) (hc : c ≤ maxLen) : MRows w (.slice a 0 c) [] :=
  ⟨⟨⟨_, _, rfl⟩, fun h => absurd h (by simp)⟩, fun A n c2 e => by injection e with e1 e2 e3; subst e2 e3; exact ⟨Nat.zero_le _, hc⟩⟩
theorem MRows.tail {w : World} {g o m c : Nat} {xss : List (List Int)} (h : MRows w (.slice (some ⟨g, o, none⟩) (m + 1) c) xss) (hl : xss.length = m + 1) : MRows w (.slice (some ⟨g, o + 1, none⟩) m (c - 1)) (xss.drop 1) := by
  obtain ⟨m1, m2⟩ := h.room _ _ _ rfl
  obtain ⟨g2, o2, c2, hv, hg, hcells⟩ := h.rows.cells (by omega)
  injection hv with e1 e2 e3
  injection e1 with e1
  injection e1 with e1 e4
  subst e1 e4
  have hdl : (xss.drop 1).length = m := by rw [List.length_drop]; omega
  refine ⟨⟨⟨_, _, by rw [hdl]⟩, fun hx => ⟨g, o + 1, c - 1, by rw [hdl], hg, fun j hj => ?_⟩⟩, fun A n c3 e => by injection e with e1 e2 e3; subst e2 e3; omega⟩
  obtain ⟨u, h1, h2⟩ := hcells (j + 1) (by omega)
  refine ⟨u, by rw [show o + 1 + j = o + (j + 1) by omega]; exact h1, ?_⟩
  rw [List.getD_eq_getElem?_getD, List.getElem?_drop, Nat.add_comm 1 j, ← List.getD_eq_getElem?_getD]
  exact h2
set_option maxRecDepth 100000 in
set_option maxHeartbeats 4000000 in
theorem det_any : ∀ (n : Nat) (v : Value) (xss : List (List Int)) (w : World), n ≤ 4 → Sq n xss → MRows w v xss → Calls Try.prog 72 #[v] w (Ret w (.int .i64 (detF n xss)))
  | 0, v, xss, w, _, hs, hm => by
    obtain ⟨A, c, rfl⟩ := hm.rows.shape
    have h0 := hs.1
    rw [h0]
    clear hm hs h0
    go_enter Try.func72, Try.ntmps72
    go_wp2
    go_ret
    exact ⟨rfl, Below.refl _ _⟩
  | n + 1, v, xss, w, hn, hs, hm => by
    have IH : Hid (∀ v xss w, Sq n xss → MRows w v xss → Calls Try.prog 72 #[v] w (Ret w (.int .i64 (detF n xss)))) := Lib.hid fun v xss w h1 h2 => det_any n v xss w (by omega) h1 h2
    have hl := hs.1
    obtain ⟨g, o, c, rfl, hg, hcells⟩ := hm.rows.cells (by omega)
    obtain ⟨hc1, hc2⟩ := hm.room _ _ _ rfl
    rw [hl] at hc1 hcells hm ⊢
    obtain ⟨u0, f0, hu0⟩ := hcells 0 (by omega)
    have hl0 := (hs.2 0 (by omega)).1
    obtain ⟨g0, o0, c0, rfl, hg0, hc0⟩ := hu0.cells (by omega)
    obtain ⟨m1, m2⟩ := hu0.room _ _ _ rfl
    rw [hl0] at f0 hc0 m1
    rw [Nat.add_zero] at f0
    have HC0 : Hid (∀ W, Below w.heap.size w W → ∀ j, j < n + 1 → W.cell? ⟨g0, o0 + j, none⟩ = some (.int .i64 ((xss.getD 0 []).getD j 0))) := Lib.hid fun W hW j hj => (hW.cell (p := ⟨g0, o0 + j, none⟩) hg0).trans (hc0 j hj)
    have HS := Lib.hid hs
    have HMT := Lib.hid (hm.tail hl)
    have HDL : Hid ((xss.drop 1).length = n) := Lib.hid (by rw [List.length_drop]; omega)
    have HCL : Hid (∀ i, i < (xss.drop 1).length → ((xss.drop 1).getD i []).length = n + 1) := Lib.hid fun i hi => by
      rw [List.getD_eq_getElem?_getD, List.getElem?_drop, ← List.getD_eq_getElem?_getD]
      exact (hs.2 (1 + i) (by rw [List.length_drop] at hi; omega)).1
    have q0 : ((n : Int) + 1 == 0) = false := beq_eq_false_iff_ne.2 (by omega)
    have EF : Hid (dtS (dtT n xss) (n + 1) = detF (n + 1) xss) := Lib.hid rfl
    clear hcells hm hs hc0 hl hu0 hl0
    go_enter Try.func72, Try.ntmps72
    go_wp2_with fail
    go_loopw [3, 4, 14] (fun s q i wr => ∃ j : Nat, j ≤ n + 1 ∧ i = .int .i64 (j : Int) ∧ s = .int .i64 (dtS (dtT n xss) j) ∧ q = .int .i64 (sgn j) ∧ Below w.heap.size w wr) (fun _ _ i _ => n + 1 - (intOf i).toNat)
    case atStart => exact ⟨0, Nat.zero_le _, rfl, rfl, rfl, Below.refl _ _⟩
    case round =>
      obtain ⟨j, hj, rfl, rfl, rfl, hb⟩ := hrel
      by_cases hlt : j < n + 1
      · have e1 := HC0.out _ hb j hlt
        obtain ⟨x, hx⟩ : ∃ x, x = (xss.getD 0 []).getD j 0 := ⟨_, rfl⟩
        rw [← hx] at e1
        have HX := Lib.hid hx
        clear hx
        have i1 : (j : Int) < (n : Int) + 1 := by omega
        have HB := Lib.hid hb
        have hsz := hb.size
        have HCUT : Hid (∀ A c' w1, c' ≤ maxLen → n = 0 → Calls Try.prog 75 #[.slice A 0 c', .int .i64 (j : Int)] w1 (CutRet w1 j (xss.drop 1))) := Lib.hid fun A c' w1 hc' h0 => by
          have e : xss.drop 1 = [] := List.eq_nil_of_length_eq_zero (by rw [HDL.out, h0])
          rw [e]
          exact cut_any _ [] n j w1 (mrows_nil _ _ _ hc') hlt (by omega) (by simp) (fun i hi => absurd hi (by simp))
        have HCUT2 : Hid (Calls Try.prog 75 #[.slice (some ⟨g, o + 1, none⟩) n (c - 1), .int .i64 (j : Int)] wr (CutRet wr j (xss.drop 1))) := Lib.hid (cut_any _ (xss.drop 1) n j wr (HMT.out.below hb) hlt (by omega) (by rw [HDL.out]; omega) HCL.out)
        have HD : Hid (∀ v w1, MRows w1 v (minr xss j) → Calls Try.prog 72 #[v] w1 (Ret w1 (.int .i64 (detF n (minr xss j))))) := Lib.hid fun v w1 h1 => IH.out v _ w1 (minr_sq HS.out hlt) h1
        have b1 := dtS_small (n := n) (by omega) HS.out (j := j) (by omega)
        have b2 := dtS_small (n := n) (by omega) HS.out (j := j + 1) (by omega)
        have b3 := dtT_bd (n := n) (by omega) HS.out (j := j) (by omega)
        have b4 := sx_bd (j := j) (((HS.out.2 0 (by omega)).2 j (by omega)))
        have b5 : -1 ≤ sgn j ∧ sgn j ≤ 1 := by rcases sgn_bd j with h | h <;> omega
        have HN : Hid (dtS (dtT n xss) (j + 1) = dtS (dtT n xss) j + sgn j * x * detF n (minr xss j)) := Lib.hid (by rw [HX.out]; rfl)
        have b6 : dtS (dtT n xss) (j + 1) = dtS (dtT n xss) j + dtT n xss j := rfl
        rw [b6] at b2
        unfold dtT at b3
        rw [← HX.out] at b3 b4
        have HSG : Hid (sgn (j + 1) = -sgn j) := Lib.hid rfl
        have HMC : Hid ((xss.drop 1).map (cutC j) = minr xss j) := Lib.hid rfl
        clear b6 hb
        generalize dtT n xss j = T at b2
        clear b2
        generalize dtS (dtT n xss) j = S at *
        generalize detF n (minr xss j) = D at *
        generalize sgn j = q at *
        have b7 : -300000000000000000 ≤ S + q * x * D ∧ S + q * x * D ≤ 300000000000000000 := by omega
        by_cases hk : c = 1
        · have hn0 : n ≤ 0 := by omega
          subst hk
          go_wp2_with (first | (go_at_call 75; refine (HCUT.out _ _ _ ?_ (by omega)).mono ?_; (unfold maxLen; omega); rintro e w2 ⟨x2, M2, vs2, rfl, ht2, hM2, hb2⟩; rw [HMC.out] at ht2; have HDD := Lib.hid (HD.out _ _ ht2.mrows); obtain ⟨A2, cl, rfl⟩ := ht2.out.shape; clear ht2) | (go_at_call 72; refine HDD.out.mono ?_; rintro e w3 ⟨rfl, hb3⟩))
          have HB3 := Lib.hid (HB.out.trans ((hb2.trans (hb3.mono hb2.size)).mono hsz))
          clear hb2 hb3
          go_roundw
          case rel => exact ⟨j + 1, by omega, by go_num, by rw [HN.out], by rw [HSG.out], HB3.out⟩
          case measure => simp [intOf]; omega
        · go_wp2_with (first | (go_at_call 75; refine HCUT2.out.mono ?_; rintro e w2 ⟨x2, M2, vs2, rfl, ht2, hM2, hb2⟩; rw [HMC.out] at ht2; have HDD := Lib.hid (HD.out _ _ ht2.mrows); obtain ⟨A2, cl, rfl⟩ := ht2.out.shape; clear ht2) | (go_at_call 72; refine HDD.out.mono ?_; rintro e w3 ⟨rfl, hb3⟩))
          have HB3 := Lib.hid (HB.out.trans ((hb2.trans (hb3.mono hb2.size)).mono hsz))
          clear hb2 hb3
          go_roundw
          case rel => exact ⟨j + 1, by omega, by go_num, by rw [HN.out], by rw [HSG.out], HB3.out⟩
          case measure => simp [intOf]; omega
      · obtain rfl : j = n + 1 := by omega
        rw [EF.out]
        generalize detF (n + 1) xss = D at *
        go_wp2_with fail
        go_ret
        exact ⟨rfl, hb⟩
end Go.Proofs.Ytmfcknlpbliehab

/- The program's isMatrix, DeterminantOf. -/
namespace Go.Proofs.Ytmfcknlpbliehab
open Go.RowKit
set_option linter.unusedVariables false
set_option maxRecDepth 100000 in
set_option maxHeartbeats 2000000 in
theorem isMatrix_any (v : Value) (xss : List (List Int)) (w : World) (h : LRows w v xss) (hl : ∀ k, k < xss.length → (xss.getD k []).length ≤ 1048576) (hl2 : xss.length ≤ 1048576) :
    Calls Try.prog 71 #[v] w (Ret w (.bool (smT xss))) := by
  have HI : Hid (∀ (X : World) (g : Nat), g = X.heap.size → Calls Try.prog 50 #[.int .i64 1, .int .i64 4, .slice (some ⟨g, 0, none⟩) 1 1] (X.alloc (.cells #[.int .i64 (xss.length : Nat)] 3)) fun e w' => e = .returned (.bool (inBd 1 4 (xss.length : Nat))) ∧ Below X.heap.size X w') := Lib.hid fun X g hg => wth_1 1 4 (xss.length : Nat) X g hg
  rcases Bool.eq_false_or_eq_true (inBd 1 4 (xss.length : Nat)) with h0 | h0
  case inr =>
    have e1 : smT xss = false := by unfold smT; rw [h0]; rfl
    obtain ⟨A, c, rfl⟩ := h.shape
    rw [e1]
    rw [h0] at HI
    clear e1 h0 h
    go_enter Try.func71, Try.ntmps71
    go_wp2_with (go_at_call 50; refine (HI.out _ _ rfl).mono ?_; rintro e w1 ⟨rfl, hb1⟩)
    go_ret
    exact ⟨rfl, hb1⟩
  have hn := inBd_if8 h0
  have hn1 : 0 < xss.length := by omega
  have hn4 : xss.length ≤ 4 := by omega
  obtain ⟨g, o, c, rfl, hg, hc⟩ := h.cells hn1
  have HC := Lib.hid hc
  have H0 := Lib.hid h0
  have HL := Lib.hid hl
  rw [h0] at HI
  have HT : Hid (∀ j, j < xss.length → smRow xss.length (xss.getD j []) = false → smT xss = false) := Lib.hid fun j h1 h2 => smT_no h1 h2
  have HY : Hid ((∀ k, k < xss.length → smRow xss.length (xss.getD k []) = true) → smT xss = true) := Lib.hid fun h1 => smT_yes H0.out h1
  obtain ⟨n, hnn⟩ : ∃ n, xss.length = n := ⟨_, rfl⟩
  rw [hnn] at HC HL HI HT HY hn4 hn1 ⊢
  clear h hc h0 hl hl2 hn H0 hnn
  generalize smT xss = T at *
  go_enter Try.func71, Try.ntmps71
  go_wp2_with (go_at_call 50; refine (HI.out _ _ rfl).mono ?_; rintro e w1 ⟨rfl, hb1⟩)
  go_loopw [12] (fun i wr => ∃ j : Nat, j ≤ n ∧ i = .int .i64 (j : Int) ∧ (∀ k, k < j → smRow n (xss.getD k []) = true) ∧ Below w.heap.size w wr) (fun i _ => n - (intOf i).toNat)
  case atStart => exact ⟨0, Nat.zero_le _, rfl, fun k hk => absurd hk (by omega), hb1⟩
  case round =>
    obtain ⟨j, hj, rfl, hall, hb⟩ := hrel
    by_cases hlt : j < n
    · obtain ⟨w0, rfl⟩ : ∃ w0, w0 = wr := ⟨_, rfl⟩
      obtain ⟨u, hu1, hu2⟩ := HC.out j hlt
      have hu3 := hu2.below hb
      have e1 := (hb.cell (p := ⟨g, o + j, none⟩) hg).trans hu1
      have HA := Lib.hid (wth_any u (xss.getD j []) (-10000) 10000 w0 hu3 (HL.out j hlt))
      obtain ⟨A1, c1, rfl⟩ := hu2.shape
      have HJ : Hid (smRow n (xss.getD j []) = ((xss.getD j []).length == n && allB (xss.getD j []) (-10000) 10000)) := Lib.hid rfl
      have HTJ := Lib.hid (HT.out j hlt)
      have HALL := Lib.hid hall
      have HB := Lib.hid hb
      have i1 : (j : Int) < (n : Int) := by omega
      have h00 : 0 ≤ (j : Int) := by omega
      clear hu1 hu2 hu3 hall hb HT
      generalize hrj : xss.getD j [] = r at *
      have HRJ := Lib.hid hrj
      clear hrj
      by_cases hlen : r.length = n
      · rcases Bool.eq_false_or_eq_true (allB r (-10000) 10000) with ha | ha
        · have HJ2 : Hid (smRow n r = true) := Lib.hid (by rw [HJ.out, ha, hlen]; simp)
          rw [ha, hlen] at HA
          have i2 : ((r.length : Int) != (n : Int)) = false := by rw [hlen]; simp
          clear HJ HTJ ha
          go_wp2_with (go_at_call 50; refine HA.out.mono ?_; rintro e w' ⟨rfl, rfl⟩)
          go_roundw
          case rel => exact ⟨j + 1, by omega, by go_num, fun k hk => by
            rcases Nat.lt_or_ge k j with h | h
            · exact HALL.out k h
            · obtain rfl : k = j := by omega
              rw [HRJ.out]; exact HJ2.out, HB.out⟩
          case measure => first | (simp [intOf]; done) | (simp [intOf]; omega)
        · have HJ2 := Lib.hid (HTJ.out (by rw [HJ.out, ha, Bool.and_false]))
          rw [ha, hlen] at HA
          have i2 : ((r.length : Int) != (n : Int)) = false := by rw [hlen]; simp
          clear HJ HTJ ha
          rw [HJ2.out]
          go_wp2_with (go_at_call 50; refine HA.out.mono ?_; rintro e w' ⟨rfl, rfl⟩)
          go_ret
          exact ⟨rfl, HB.out⟩
      · have HJ2 := Lib.hid (HTJ.out (by rw [HJ.out]; simp [hlen]))
        have i2 : ((r.length : Int) != (n : Int)) = true := by simpa using fun h : (r.length : Int) = (n : Int) => hlen (by omega)
        clear HJ HTJ hlen
        rw [HJ2.out]
        go_wp2_with fail
        go_ret
        exact ⟨rfl, HB.out⟩
    · obtain rfl : j = n := by omega
      have HT1 := Lib.hid (HY.out hall)
      have HB := Lib.hid hb
      clear hall hb HT
      go_wp2_with fail
      go_ret
      exact ⟨by rw [HT1.out]; rfl, HB.out⟩
set_option maxRecDepth 100000 in
theorem determinantI_ret (v : Value) (xss : List (List Int)) (w : World) (h : MRows w v xss) (hl : ∀ k, k < xss.length → (xss.getD k []).length ≤ 1048576) (hl2 : xss.length ≤ 1048576) :
    Calls Try.prog 58 #[v] w (Ret w (.tuple #[.int .i64 (dtmV xss), .bool (dtmOk xss)])) := by
  have HS := Lib.hid (isMatrix_any v xss w h.rows hl hl2)
  have H := Lib.hid h
  unfold dtmOk dtmV
  obtain ⟨A, c, rfl⟩ := h.rows.shape
  clear h
  rcases Bool.eq_false_or_eq_true (smT xss) with hs | hs
  · obtain ⟨h4, hsq⟩ := smT_sq hs
    have HK := Lib.hid fun w' (hb : Below w.heap.size w w') => det_any xss.length _ xss w' h4 hsq (H.out.below hb)
    rw [if_pos hs, hs]
    rw [hs] at HS
    clear hs hsq
    generalize detF xss.length xss = D at *
    go_enter Try.func58, Try.ntmps58
    go_wp2_with fail
    refine HS.out.mono ?_
    rintro e w1 ⟨rfl, hb1⟩
    go_wp2_with fail
    refine (HK.out _ hb1).mono ?_
    rintro e w2 ⟨rfl, hb2⟩
    go_wp2_with fail
    go_ret2
    exact ⟨rfl, hb1.trans (hb2.mono hb1.size)⟩
  · rw [if_neg (by rw [hs]; decide), hs]
    rw [hs] at HS
    clear hs
    go_enter Try.func58, Try.ntmps58
    go_wp2_with fail
    refine HS.out.mono ?_
    rintro e w1 ⟨rfl, hb1⟩
    go_wp2_with fail
    go_ret2
    exact ⟨rfl, hb1⟩
end Go.Proofs.Ytmfcknlpbliehab

/- Two places are compared. -/
namespace Go.Proofs.Ytmfcknlpbliehab
open Go.RowKit
set_option linter.unusedVariables false
theorem eq_place (w : World) (x y p q : Int) : (Op.equalIn 10000 91 (.agg #[.int .i64 x, .int .i64 y]) (.agg #[.int .i64 p, .int .i64 q])).run Try.prog w = .ok (x == p && y == q) w := by
  obtain ⟨i0, hi0, _⟩ := info_parts intInfo
  have hc : Try.prog.cellsOf 3 = 1 := by kernel_rfl
  have hp : Try.prog.plainKey 3 = true := by kernel_rfl
  have hu : Try.prog.underlying 91 = some (.array 2 3) := by kernel_rfl
  have p0 : (part 3 #[Value.int .i64 x, .int .i64 y] 0).run Try.prog w = .ok (.int .i64 x) w := run_part_plain w hp rfl
  have p1 : (part 3 #[Value.int .i64 x, .int .i64 y] 1).run Try.prog w = .ok (.int .i64 y) w := run_part_plain w hp rfl
  have p2 : (part 3 #[Value.int .i64 p, .int .i64 q] 0).run Try.prog w = .ok (.int .i64 p) w := run_part_plain w hp rfl
  have p3 : (part 3 #[Value.int .i64 p, .int .i64 q] 1).run Try.prog w = .ok (.int .i64 q) w := run_part_plain w hp rfl
  have Q : ∀ a b : Int, (Op.equalIn 9999 3 (.int .i64 a) (.int .i64 b)).run Try.prog w = .ok (a == b) w := fun a b => run_equalIn_int w 9998 3 .i64 .i64 a b Try.underlying3
  obtain ⟨c1, h1⟩ : ∃ c, c = (x == p) := ⟨_, rfl⟩
  obtain ⟨c2, h2⟩ : ∃ c, c = (y == q) := ⟨_, rfl⟩
  have q1 := Q x p
  have q2 := Q y q
  rw [← h1] at q1 ⊢
  rw [← h2] at q2 ⊢
  rw [run_equalIn_array w 9999 _ _ hu hi0, hc, show List.range 2 = [0, 1] from rfl]
  simp only [Op.eqItems, Sem.run_bind, Nat.zero_mul, Nat.one_mul, p0, p2, Result.andThen_ok, q1]
  cases c1
  · cases c2 <;> rfl
  · simp only [Bool.not_true, Bool.false_eq_true, if_false, Sem.run_bind, p1, p3, Result.andThen_ok, q2]
    cases c2 <;> rfl
end Go.Proofs.Ytmfcknlpbliehab
