/- Pack 32 of what FnExactAllOrdered needs: CoS, AoS. -/
import Derived.Test.YtnlcainfkchieaaKFnExactAllOrdered31
/- CountOrdered: the model. -/
namespace Go.Proofs.Ytnlcainfkchieaa
open Go.RowKit
set_option linter.unusedVariables false
theorem fac_one (n : Nat) : fac (max n 1) = fac n := by
  by_cases h : n = 0
  · subst h; rfl
  · rw [show max n 1 = n by omega]
def pdT (xss : List (List Int)) (i j : Nat) : Int := pd ((xss.take i).flatten ++ (xss.getD i []).take j)
theorem pdT_zero (xss : List (List Int)) (i : Nat) : pdT xss i 0 = pd ((xss.take i).flatten) := by unfold pdT; simp
theorem pdT_step {xss : List (List Int)} {i j : Nat} (h : j < (xss.getD i []).length) : pdT xss i (j + 1) = pdT xss i j * (xss.getD i []).getD j 0 := by
  unfold pdT
  generalize xss.getD i [] = row at *
  rw [List.take_succ_eq_append_getElem h, ← List.append_assoc, pd_snoc]
  congr 1
  rw [List.getD_eq_getElem?_getD, List.getElem?_eq_getElem h]
  rfl
theorem pdT_next {xss : List (List Int)} {i : Nat} (h : i < xss.length) : pdT xss i (xss.getD i []).length = pd ((xss.take (i + 1)).flatten) := by
  unfold pdT
  rw [List.take_length, List.take_succ_eq_append_getElem h, List.flatten_append, List.getD_eq_getElem?_getD, List.getElem?_eq_getElem h]
  simp
theorem pdT_bd {xss : List (List Int)} (hp : ∀ x, x ∈ xss.flatten → 1 ≤ x) {i : Nat} (h : i < xss.length) (j : Nat) : 1 ≤ pdT xss i j ∧ pdT xss i j ≤ pd xss.flatten := by
  have e : ((xss.take i).flatten ++ (xss.getD i []).take j) ++ ((xss.getD i []).drop j ++ (xss.drop (i + 1)).flatten) = xss.flatten := by
    rw [List.append_assoc, ← List.append_assoc ((xss.getD i []).take j), List.take_append_drop]
    rw [List.getD_eq_getElem?_getD, List.getElem?_eq_getElem h]
    show (xss.take i).flatten ++ (xss[i] ++ (xss.drop (i + 1)).flatten) = _
    rw [← List.flatten_cons, ← List.drop_eq_getElem_cons h, ← List.flatten_append, List.take_append_drop]
  have := pd_pre (l := (xss.take i).flatten ++ (xss.getD i []).take j) (r := (xss.getD i []).drop j ++ (xss.drop (i + 1)).flatten) (by rw [e]; exact hp)
  rw [e] at this
  exact this
set_option maxRecDepth 100000 in
set_option maxHeartbeats 1600000 in
theorem voCount_any (g0 o0 cc0 : Nat) (xs : List Int) (w : World) (hK : resB xs = true) (hg0 : g0 < w.heap.size) (hcc : 4 ≤ cc0 ∧ cc0 ≤ maxLen) (hcells0 : ∀ j, j < 4 → w.cell? ⟨g0, o0 + j, none⟩ = some (.int .i64 (xs.getD j 0))) :
    Calls Try.prog 47 #[.slice (some ⟨g0, o0, none⟩) 4 cc0] w (Ret w (.int .i64 (coV xs))) := by
  obtain ⟨hL16, hpos, hpd, hsum⟩ := hk_facts hK
  obtain ⟨a, b, c, d, rfl, h1, h2, h3, h4⟩ := res_q4 hK
  have c0 := hcells0 0 (by omega)
  have c1 := hcells0 1 (by omega)
  have c2 := hcells0 2 (by omega)
  have c3 := hcells0 3 (by omega)
  simp [q4] at c0 c1 c2 c3
  have hn : ((hkL (q4 a b c d)).length : Int) = (a : Int) + b + c + d := by rw [hsum]; simp [q4]; omega
  have HVH : Hid (∀ w1, w.heap.size ≤ w1.heap.size → (∀ j, j < 4 → w1.cell? ⟨g0, o0 + j, none⟩ = some (.int .i64 ((q4 a b c d).getD j 0))) → Calls Try.prog 45 #[.slice (some ⟨g0, o0, none⟩) 4 cc0] w1 (TabsNew w1 (hksTo (q4 a b c d) 4))) := Lib.hid fun w1 hs hc => voHooks_any g0 o0 cc0 _ w1 hK (Nat.lt_of_lt_of_le hg0 hs) hcc hc
  have HVW := Lib.hid (HVH.out w (Nat.le_refl _) hcells0)
  have HRL := Lib.hid (fun j hj => hkRow_16 hK j hj)
  have HLN : Hid ((hksTo (q4 a b c d) 4).length = 4) := Lib.hid (hksTo_len _ 4)
  have HCV : Hid (coV (q4 a b c d) = (fac (hkL (q4 a b c d)).length).tdiv (pd (hkL (q4 a b c d)))) := Lib.hid rfl
  have HFL : Hid (hkL (q4 a b c d) = (hksTo (q4 a b c d) 4).flatten) := Lib.hid rfl
  have HFB := Lib.hid fac_bd
  have HFS : Hid (∀ k, fac (k + 1) = fac k * ((k : Int) + 1)) := Lib.hid fun k => by rw [fac]; congr 1
  have HPB := Lib.hid (fun k => pd_takeB hpos k)
  have HPOS := Lib.hid hpos
  have hN : a + b + c + d = (hkL (q4 a b c d)).length := by omega
  have HN := Lib.hid hN
  clear hcells0 hK hsum HVH hpos hn
  generalize hksTo (q4 a b c d) 4 = xss at *
  generalize hkL (q4 a b c d) = L at *
  generalize coV (q4 a b c d) = R at *
  have hab : a + b + c + d ≤ 16 := h4
  clear h1 h2 h3 hN
  go_enter Try.func47, Try.ntmps47
  go_wp2
  refine wp_loop_rounds 5 ?_
  iterate 5 (rw [rounds_succ]; go_wp2)
  go_loop [6, 8] (fun f i => ∃ k : Nat, 1 ≤ k ∧ k ≤ max L.length 1 ∧ i = .int .i64 ((k : Int) + 1) ∧ f = .int .i64 (fac k)) (fun _ i => 18 - (intOf i).toNat)
  case atStart => exact ⟨1, by omega, by omega, rfl, rfl⟩
  case round =>
    obtain ⟨k, hk1, hk, rfl, rfl⟩ := hrel
    have hNN := HN.out
    by_cases hlt : k < L.length
    · have f1 := HFB.out (k + 1) (by omega)
      have HFS1 := Lib.hid (HFS.out k)
      rw [HFS1.out] at f1
      clear HFB HFS HPB HCV HFL HPOS HRL HVW
      generalize hF1 : fac (k + 1) = F1 at *
      have HF1 := Lib.hid hF1
      clear hF1
      generalize fac k = F0 at *
      have i1 : (k : Int) + 1 ≤ (a : Int) + b + c + d := by omega
      go_wp2
      refine ⟨⟨k + 1, by omega, by omega, by go_num, by rw [HF1.out, HFS1.out]⟩, ?_⟩
      first | (simp [intOf]; done) | (simp [intOf]; omega)
    · have i1 : ¬ (k : Int) + 1 ≤ (a : Int) + b + c + d := by omega
      have HFK : Hid (fac k = fac L.length) := Lib.hid (by rw [← fac_one L.length, show max L.length 1 = k by omega])
      rw [HFK.out]
      clear HFK HN hNN
      have f1 := HFB.out L.length hL16
      generalize hFF : fac L.length = F at *
      clear hFF HFB HFS
      have HPP := Lib.hid (HPB.out L.length)
      rw [List.take_length] at HPP
      go_wp2_with (go_at_call 45; refine HVW.out.mono ?_; rintro e w1 ⟨v1, vs1, rfl, hr1, hb1⟩; obtain ⟨g1, c1, rfl, hg1, hgm, hcl1⟩ := hr1.form HLN.out (by omega); have HT := Lib.hid hr1; have HCL1 := Lib.hid hcl1; clear hr1 hcl1)
      have HPOS2 := Lib.hid HPOS.out
      rw [HFL.out] at HPOS2
      have HBD := Lib.hid (fun i (hi : i < 4) j => pdT_bd HPOS2.out (i := i) (by have := HLN.out; omega) j)
      have HST := Lib.hid (fun i j => pdT_step (xss := xss) (i := i) (j := j))
      have HNX := Lib.hid (fun i (hi : i < 4) => pdT_next (xss := xss) (i := i) (by have := HLN.out; omega))
      have HZ := Lib.hid (pdT_zero xss)
      rw [← HFL.out] at HBD
      have HRW : Hid (∀ j, j < 4 → RInts w1 (vs1.getD j NilS) (xss.getD j [])) := Lib.hid fun j hj => RInts.of_row (HT.out.row j (by have := HLN.out; omega))
      have HE : Hid (pd ((xss.take 4).flatten) = pd L) := Lib.hid (by rw [HFL.out, List.take_of_length_le (by have := HLN.out; omega)])
      have HE0 : Hid (pd ((xss.take 0).flatten) = 1) := Lib.hid rfl
      clear HT HPB HPOS HPOS2 HVW
      go_loop [7, 34] (fun p i => ∃ k : Nat, k ≤ 4 ∧ i = .int .i64 (k : Int) ∧ p = .int .i64 (pd ((xss.take k).flatten))) (fun _ i => 4 - (intOf i).toNat)
      case atStart => exact ⟨0, Nat.zero_le _, rfl, by rw [HE0.out]⟩
      case round =>
        obtain ⟨q, hq, rfl, rfl⟩ := hrel
        by_cases hlt4 : q < 4
        · have e1 := HCL1.out q hlt4
          have hrr := HRW.out q hlt4
          obtain ⟨A3, c3', hsh⟩ := hrr.shape
          rw [hsh] at e1
          have HRR := Lib.hid hrr
          have HSH := Lib.hid hsh
          have HBD1 := Lib.hid (HBD.out q hlt4)
          have HST1 := Lib.hid (fun j => HST.out q j)
          have HNX1 := Lib.hid (HNX.out q hlt4)
          have hr16 := HRL.out q hlt4
          have q1 : decide ((q : Int) < 4) = true := decide_eq_true (by omega)
          rw [← HZ.out q]
          clear hrr hsh HBD HST HNX HZ HRW HE HE0 HCL1
          generalize hF1 : pd ((xss.take (q + 1)).flatten) = P1 at *
          have HF1 := Lib.hid hF1
          clear hF1
          generalize xss.getD q [] = row at *
          generalize pdT xss q = T at *
          have HRV : Hid (RInts w1 (.slice A3 row.length c3') row) := Lib.hid (by rw [← HSH.out]; exact HRR.out)
          clear HRR HSH
          go_wp2
          go_loop [7, 40] (fun p i => ∃ j : Nat, j ≤ row.length ∧ i = .int .i64 (j : Int) ∧ p = .int .i64 (T j)) (fun _ i => row.length - (intOf i).toNat)
          case atStart => exact ⟨0, Nat.zero_le _, rfl, rfl⟩
          case round =>
            obtain ⟨j, hj, rfl, rfl⟩ := hrel
            by_cases hltj : j < row.length
            · obtain ⟨g3, o3, cc3, hv3, hg3, hcells3⟩ := HRV.out.cells (by omega)
              have hA : A3 = some ⟨g3, o3, none⟩ := by injection hv3
              subst hA
              clear hv3
              have e2 := hcells3 j hltj
              clear hcells3
              have b0 := HBD1.out j
              have b1 := HBD1.out (j + 1)
              have HS := Lib.hid (HST1.out j hltj)
              rw [HS.out] at b1
              clear HBD1 HST1 HNX1 HRV
              generalize row.getD j 0 = x at *
              generalize hT1 : T (j + 1) = T1 at *
              have HT1 := Lib.hid hT1
              clear hT1
              generalize T j = T0 at *
              have b2 : T0 * x ≤ 100000000000000 := by omega
              go_wp2
              refine ⟨⟨j + 1, by omega, by go_num, by rw [HT1.out, HS.out]⟩, ?_⟩
              first | (simp [intOf]; done) | (simp [intOf]; omega)
            · obtain rfl : j = row.length := by omega
              rw [HNX1.out]
              go_wp2
              refine ⟨⟨q + 1, by omega, by go_num, by rw [HF1.out]⟩, ?_⟩
              first | (simp [intOf]; done) | (simp [intOf]; omega)
        · obtain rfl : q = 4 := by omega
          rw [HE.out]
          have p1 := HPP.out.1
          have HQ : Hid (F.tdiv (pd L) = F / pd L) := Lib.hid (Int.tdiv_eq_ediv_of_nonneg (by omega))
          clear HE HE0 HPP
          generalize pd L = P at *
          have m3 : (P == 0) = false := beq_eq_false_iff_ne.2 (by omega)
          go_wp2
          go_ret
          exact ⟨ret_int (by rw [HCV.out, HQ.out]), hb1⟩
theorem specCountOrd_ret (v : Value) (xs : List Int) (w : World) (h : RInts w v xs) (hl : xs.length ≤ 1048576) : Calls Try.prog 23 #[v] w (Ret w (.tuple #[.int .i64 (coW xs), .bool (resB xs)])) := by
  have HV := Lib.hid (voResult_any v xs w h hl)
  unfold coW
  rcases Bool.eq_false_or_eq_true (resB xs) with hr | hr
  · have h4 := (res_at hr).1
    obtain ⟨g0, o0, cc0, rfl, hg0, hcells0⟩ := h.cells (by omega)
    have hroom := h.room _ _ _ rfl
    rw [h4] at hroom hcells0
    have HVC : Hid (∀ w1, Below w.heap.size w w1 → Calls Try.prog 47 #[.slice (some ⟨g0, o0, none⟩) 4 cc0] w1 (Ret w1 (.int .i64 (coV xs)))) := Lib.hid fun w1 hb => voCount_any g0 o0 cc0 xs w1 hr (Nat.lt_of_lt_of_le hg0 hb.size) hroom (fun j hj => (hb.cell (p := ⟨g0, o0 + j, none⟩) hg0).trans (hcells0 j hj))
    rw [hr] at HV
    rw [hr, if_pos rfl]
    rw [h4] at HV ⊢
    clear h hr hcells0 h4 hroom
    generalize coV xs = R at *
    go_enter Try.func23, Try.ntmps23
    go_wp2_with (first | (go_at_call 42; refine HV.out.mono ?_; rintro e w1 ⟨rfl, hb1⟩) | (go_at_call 47; refine (HVC.out _ hb1).mono ?_; rintro e w2 ⟨rfl, hb2⟩))
    go_ret2
    exact ⟨rfl, hb1.trans (hb2.mono hb1.size)⟩
  · rw [hr] at HV
    rw [hr]
    obtain ⟨A0, cap, rfl⟩ := h.shape
    clear h hr
    go_enter Try.func23, Try.ntmps23
    go_wp2_with (go_at_call 42; refine HV.out.mono ?_; rintro e w1 ⟨rfl, hb1⟩)
    go_ret2
    exact ⟨rfl, hb1⟩
end Go.Proofs.Ytnlcainfkchieaa

/- AllOrdered: the model. -/
namespace Go.Proofs.Ytnlcainfkchieaa
open Go.RowKit
set_option linter.unusedVariables false
theorem ao_behind {a b c d : Nat} (h1 : b ≤ a) (h2 : c ≤ b) (h3 : d ≤ c) (h : a + b + c + d ≤ 16) : behind ⟨#[]⟩ ((ll (rr a b c d) (tot (rr a b c d)) (fun _ => 0)).map lett) = aoL a b c d (coV (q4 a b c d)).toNat := by
  rw [coV_W h1 h2 h3 h, ← uw_ll (tot (rr a b c d)) (fun _ => 0) Ok.zero (by show 0 + 0 + 0 + 0 + _ = _; omega)]
  have := behind_none (((List.range (W (rr a b c d) (fun _ => 0))).map (uw (rr a b c d) (tot (rr a b c d)) (fun _ => 0))).map lett)
  refine Eq.trans this ?_
  rw [List.map_map, List.map_map]
  rfl
set_option maxRecDepth 100000 in
set_option maxHeartbeats 4000000 in
theorem specAllOrdered_ret (v : Value) (xs : List Int) (w : World) (h : RInts w v xs) (hl : xs.length ≤ 1048576) :
    Calls Try.prog 27 #[v] w (StrsRet w (aoB xs) (aoV xs)) := by
  have HV := Lib.hid (voResult_any v xs w h hl)
  rcases Bool.eq_false_or_eq_true (resB xs) with hr | hr
  · obtain ⟨a, b, c, d, rfl, h1, h2, h3, h16⟩ := (resB_iff xs).1 hr
    obtain ⟨g0, o0, cc0, rfl, hg0, hcells0⟩ := h.cells (by simp)
    have hroom := h.room _ _ _ rfl
    rw [show ([(a : Int), (b : Int), (c : Int), (d : Int)] : List Int).length = 4 from rfl] at hroom hcells0
    have HVC : Hid (∀ w1, Below w.heap.size w w1 → Calls Try.prog 47 #[.slice (some ⟨g0, o0, none⟩) 4 cc0] w1 (Ret w1 (.int .i64 (coV (q4 a b c d))))) := Lib.hid fun w1 hb => voCount_any g0 o0 cc0 (q4 a b c d) w1 hr (Nat.lt_of_lt_of_le hg0 hb.size) hroom (fun j hj => (hb.cell (p := ⟨g0, o0 + j, none⟩) hg0).trans (hcells0 j hj))
    have hb : aoB (q4 a b c d) = decide (coV (q4 a b c d) ≤ 300) := by
      unfold aoB
      rw [show resB (q4 a b c d) = true from hr, Bool.true_and]
    have HX : Hid (aoV (q4 a b c d) = if aoB (q4 a b c d) = true then aoL a b c d (coV (q4 a b c d)).toNat else []) := Lib.hid rfl
    have HBH := Lib.hid (ao_behind h1 h2 h3 h16)
    have hcw := coV_eq h1 h2 h3 h16
    show Calls _ _ _ _ (StrsRet w (aoB (q4 a b c d)) (aoV (q4 a b c d)))
    rw [HX.out, hb]
    rw [hr] at HV
    rw [show ([(a : Int), (b : Int), (c : Int), (d : Int)] : List Int).length = 4 from rfl] at HV ⊢
    by_cases k1 : (300 : Int) < coV (q4 a b c d)
    · have hd : decide (coV (q4 a b c d) ≤ 300) = false := decide_eq_false (by omega)
      rw [hd]
      clear h hr hcells0 hroom HX HBH hcw hd hb
      generalize coV (q4 a b c d) = Q at *
      go_enter Try.func27, Try.ntmps27
      go_wp2_with (first | (go_at_call 42; refine HV.out.mono ?_; rintro e w1 ⟨rfl, hb1⟩) | (go_at_call 47; refine (HVC.out _ hb1).mono ?_; rintro e w2 ⟨rfl, hb2⟩))
      go_ret2
      exact ⟨_, rfl, SRow.nil _ _, hb1.trans (hb2.mono hb1.size)⟩
    · have hd : decide (coV (q4 a b c d) ≤ 300) = true := decide_eq_true (by omega)
      rw [hd, if_pos rfl]
      have HC2 : Hid (∀ (P : Nat) (W : World), w.heap.size ≤ P → Below w.heap.size w W → C4 (rr a b c d) g0 o0 P (.slice none 0 0) W) := Lib.hid fun P W hP hb => ⟨Nat.lt_of_lt_of_le hg0 hb.size, by omega, (by intro e; cases e),
        (hb.cell (p := ⟨g0, o0, none⟩) hg0).trans (hcells0 0 (by omega)), (hb.cell (p := ⟨g0, o0 + 1, none⟩) hg0).trans (hcells0 1 (by omega)), (hb.cell (p := ⟨g0, o0 + 2, none⟩) hg0).trans (hcells0 2 (by omega)), (hb.cell (p := ⟨g0, o0 + 3, none⟩) hg0).trans (hcells0 3 (by omega))⟩
      have HK : Hid (∀ (P g c1 : Nat) (W : World), LK P (.slice none 0 0) [] W → C4 (fun _ => 0) g 0 P (.slice none 0 0) W → C4 (rr a b c d) g0 o0 P (.slice none 0 0) W → 4 ≤ c1 ∧ c1 ≤ maxLen →
          Calls Try.prog 50 #[.string ⟨#[]⟩, .slice (some ⟨g, 0, none⟩) 4 c1, .slice (some ⟨g0, o0, none⟩) 4 cc0, .pointer (some ⟨P, 0, none⟩)] W (LkRet P (.slice none 0 0) (aoL a b c d (coV (q4 a b c d)).toNat) W)) := Lib.hid fun P g c1 W k1 k2 k3 k4 => by
        have := voLook_any (rr a b c d) P g0 o0 cc0 (rr_sm h1 h2 h3 h16) (rr_tot h16) hroom (tot (rr a b c d)) (fun _ => 0) g c1 ⟨#[]⟩ (.slice none 0 0) [] W Ok.zero (by show 0 + 0 + 0 + 0 + _ = _; omega) (by have : (⟨#[]⟩ : ByteArray).size = 0 := rfl; have := rr_tot h16; omega) (by rw [List.length_nil]; omega) k1 k2 k3 k4
        rw [List.nil_append, HBH.out] at this
        exact this
      have HL0 : Hid (∀ w : World, LK w.heap.size (.slice none 0 0) [] (w.alloc (.cells #[.slice none 0 0] 34))) := Lib.hid fun w => ⟨by simp [go_sem], by simp [go_sem], by simp, SRow.nil _ _⟩
      clear h hr hcells0 HX HBH hcw hd hb
      generalize aoL a b c d (coV (q4 a b c d)).toNat = L at *
      generalize coV (q4 a b c d) = Q at *
      obtain ⟨i0, hi0, hz0, hz1, hz2⟩ := info_parts intInfo
      go_enter Try.func27, Try.ntmps27
      go_wp2_with (first
        | (go_at_call 42; refine HV.out.mono ?_; rintro e w1 ⟨rfl, hb1⟩)
        | (go_at_call 47; refine (HVC.out _ hb1).mono ?_; rintro e w2 ⟨rfl, hb2⟩; have HB2 := Lib.hid (hb1.trans (hb2.mono hb1.size)))
        | (refine wpList_make_full _ rfl (.const (.int .i64 4)) (.const (.int .i64 4)) 22 rfl (w2.heap.size + 1) 3 i0 (.int .i64 0) 1 Try.underlying22 hi0 hz0 hz1 .i64 .i64 _ _ 4 rfl rfl (by omega) (by omega) (by rw [hz2]; omega) (by unfold maxLen; omega) (by simp) ?_; intro w4 hown1 hgrow1
           have hz9 : (w2.alloc (.cells #[.slice none 0 0] 34)).heap.size = w2.heap.size + 1 := by simp
           have hB4 : Below (w2.heap.size + 1) (w2.alloc (.cells #[.slice none 0 0] 34)) w4 := (Below.refl _ _).grown hgrow1 (by rw [hz9]; exact Nat.le_refl _) (by simp)
           rw [hz9] at hown1
           have hrow4 : IRow w4 (w2.heap.size + 1) (.slice (some ⟨w2.heap.size + 1, 0, none⟩) 4 4) (pL (fun _ => 0)) := IRow.of_own hown1 rfl (by rw [madeOne _ rfl]; simp [pL])
           have HB4 : Hid (Below w.heap.size w w4) := Lib.hid ((HB2.out.alloc HB2.out.size _).trans (hB4.mono (by have := HB2.out.size; omega)))
           have HLK4 : Hid (LK w2.heap.size (.slice none 0 0) [] w4) := Lib.hid ((HL0.out w2).below (by rw [hz9]; exact hB4))
           have hlt4 := (hrow4.form' (n := 4) rfl (by omega))
           have HC4 : Hid (C4 (fun _ => 0) (w2.heap.size + 1) 0 w2.heap.size (.slice none 0 0) w4) := Lib.hid (by
             obtain ⟨g, c, e, _, hg⟩ := hlt4
             injection e with e1 e2 e3
             injection e1 with e4
             injection e4 with e5
             subst e5
             exact C4.of_row hrow4 hg (by omega) (by intro e; cases e))
           clear hlt4 hrow4 hown1 hB4 hgrow1 hz9)
        | (go_at_call 50; refine (HK.out w2.heap.size (w2.heap.size + 1) 4 w4 HLK4.out HC4.out (HC2.out _ _ HB2.out.size HB4.out) ⟨by omega, by unfold maxLen; omega⟩).mono ?_; rintro e w5 ⟨rfl, v5, hL5, hS5⟩; have hcl := hL5.1))
      go_ret2
      exact ⟨_, rfl, hL5.2.2.2.mono (by have := HB2.out.size; omega), ⟨hS5.os.trans HB4.out.os, hS5.tape.trans HB4.out.tape, hS5.output.trans HB4.out.output, Nat.le_trans HB4.out.size hS5.size, fun k hk => (hS5.block k (by have := HB4.out.size; omega) (by have := HB2.out.size; omega) (by intro e; cases e)).trans (HB4.out.block k hk)⟩⟩
  · have hob : aoB xs = false := by unfold aoB; rw [hr]; rfl
    have hov : aoV xs = [] := by unfold aoV; rw [hob]; rfl
    rw [hr] at HV
    rw [hob, hov]
    obtain ⟨A, cc, rfl⟩ := h.shape
    clear h hr hob hov
    go_enter Try.func27, Try.ntmps27
    go_wp2_with (first | (go_at_call 42; refine HV.out.mono ?_; rintro e w1 ⟨rfl, hb1⟩))
    go_ret2
    exact ⟨_, rfl, SRow.nil _ _, hb1⟩
end Go.Proofs.Ytnlcainfkchieaa
