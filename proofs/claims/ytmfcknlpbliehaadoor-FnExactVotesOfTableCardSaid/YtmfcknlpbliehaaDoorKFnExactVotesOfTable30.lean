/- Pack 30 of what FnExactVotesOfTable needs: VoTabI, VotI. -/
import Derived.Test.YtmfcknlpbliehaaDoorKFnExactVotesOfTable29
/- TableOfVotes: the program. -/
namespace Go.Proofs.YtmfcknlpbliehaaDoor
open Go.RowKit
set_option linter.unusedVariables false
set_option maxRecDepth 100000 in
set_option maxHeartbeats 1600000 in
theorem table_ret (s : ByteArray) (w : World) (hs : s.size ≤ maxLen) : Calls Tryd.prog 25 #[.string s] w (TabsRet w (oB s) (taV s)) := by
  obtain ⟨i0, hi0, hz0, hz1, hz2⟩ := info_parts vecInfo
  have HO : Hid (∀ w, Calls Tryd.prog 18 #[.string s] w (Ret w (.tuple #[stA (ordP s), .bool (oB s)]))) := Lib.hid fun w => ordRes_any s w hs
  unfold taV
  unfold stA at HO
  generalize ordP s = P at *
  rcases Bool.eq_false_or_eq_true (oB s) with ho | ho
  · have hv := (oB_of ho).1
    have h16 := ((votB_iff s).1 hv).1
    have HC : Hid (∀ (k : Nat) (h : k < s.size) (w : World), Calls Tryd.prog 34 #[.int .u8 (s[k].toNat : Int)] w fun e w' => e = .returned (.int .i64 ((cd s k : Nat) : Int)) ∧ w = w') := Lib.hid fun k h w => candOf_any s k w hv h
    have HC4 := Lib.hid (fun k h => votB_lt hv k h)
    rw [ho] at HO
    rw [ho, if_pos rfl]
    clear hv ho
    go_enter Tryd.func25, Tryd.ntmps25
    go_wp2_with (first | (go_at_call 18; refine (HO.out _).mono ?_; rintro e w1 ⟨rfl, hb1⟩; have hsz1 := hb1.size) | (refine wpList_make_full _ rfl (.const (.int .i64 4)) (.const (.int .i64 4)) 25 rfl w.heap.size 33 i0 (.slice none 0 0) 1 Tryd.underlying25 hi0 hz0 hz1 .i64 .i64 _ _ 4 rfl rfl (by omega) (by omega) (by rw [hz2]; omega) (by unfold maxLen; omega) (by simp; omega) ?_; intro w2 hown1 hgrow1))
    rw [show (w1.alloc (.cells #[.int .i64 ((P 0 : Nat) : Int), .int .i64 ((P 1 : Nat) : Int), .int .i64 ((P 2 : Nat) : Int), .int .i64 ((P 3 : Nat) : Int)] 38)).heap.size = w1.heap.size + 1 by simp] at hown1
    have hrow1 := TRow.made (by rw [show (List.replicate 4 (Value.slice none 0 0)) = (madeCells (Value.slice none 0 0).cells (4 * 1)).toList from (madeOne _ rfl 4).symm]; exact hown1)
    have hb2 : Below w.heap.size w w2 := (hb1.alloc hsz1 _).grown hgrow1 (by simp; omega) (by simp)
    clear hown1 hgrow1
    generalize w1.heap.size + 1 = g at *
    rw [← tbS_zero s] at hrow1
    go_loopw [7, 8, 19] (fun q1 q2 i wr => ∃ k : Nat, k ≤ s.size ∧ i = .int .i64 (k : Int) ∧ (∃ vs, TRow wr w.heap.size wr.heap.size (.slice (some ⟨g, 0, none⟩) 4 4) vs (tbS s k)) ∧ Below w.heap.size w wr) (fun _ _ i _ => s.size - (intOf i).toNat)
    case atStart => exact ⟨0, Nat.zero_le _, rfl, ⟨_, hrow1⟩, hb2⟩
    case round =>
      obtain ⟨k, hk, rfl, ⟨vs, hrow⟩, hb⟩ := hrel
      clear hrow1 hb2
      by_cases hlt : k < s.size
      · have hc4 := HC4.out k hlt
        have HCK := Lib.hid (HC.out k hlt)
        have hsz := hb.size
        have hr := hrow.row (cd s k) (by rw [tbS_len]; exact hc4)
        have hll := tbRow_len s (cd s k) k
        have hle := vc_le s (cd s k) k
        rw [tbS_get s k _ hc4] at hr
        have HSET := Lib.hid (tbS_set s k hc4)
        have hcl : wr.cell? ⟨g, cd s k, none⟩ = some (vs.getD (cd s k) NilS) := by
          have ho := hrow.out
          exact ho.cell (by rw [hrow.len, tbS_len]; exact hc4)
        have HROW := Lib.hid hrow
        have HR := Lib.hid hr
        obtain ⟨A, c0, hsh⟩ := hr.shape
        have HU := Lib.hid hsh
        rw [hsh] at hcl
        clear hrow hr HC HC4 hsh
        have HLL : Hid ((tbRow s (cd s k) k).length ≤ 16) := Lib.hid (by omega)
        clear hll hle
        go_wp2_with (first | (go_at_call 34; refine (HCK.out _).mono ?_; rintro e w' ⟨rfl, rfl⟩) | (at_builtin; refine wpList_push (.tmp 31) (.tmp 34) rfl rfl w.heap.size _ (tbRow s (cd s k) k) rfl (by rw [← HU.out]; exact HR.out) rfl (by have := HLL.out; omega) hsz ?_; intro v' w' hrow' hg' hat'; obtain ⟨A2, c2, hv9⟩ := hrow'.shape; rw [show (tbRow s (cd s k) k ++ [(k : Int) + 1]).length = (tbRow s (cd s k) k).length + 1 by simp] at hv9; subst hv9; have hg2 : wr.grownBy w' (vs.getD (cd s k) NilS).ownBlock := by { rw [HU.out]; exact hg' }; have hp2 := HROW.out.put (by rw [tbS_len]; exact hc4) hg2 hrow' (by rw [HU.out]; exact hat'); have HB2 := Lib.hid (HROW.out.grownBelow (by rw [tbS_len]; exact hc4) hb hg2 (.slice A2 ((tbRow s (cd s k) k).length + 1) c2)); obtain ⟨hcl2, hfr2⟩ := HROW.out.after (by rw [tbS_len]; exact hc4) hg2; rw [HU.out] at hcl2; rw [HSET.out] at hp2; have HP2 := Lib.hid hp2; clear hp2 hcl))
        go_roundw
        case rel => exact ⟨k + 1, by omega, by go_num, ⟨_, HP2.out⟩, HB2.out⟩
        case measure => first | (simp [intOf]; done) | (simp [intOf]; omega)
      · obtain rfl : k = s.size := by omega
        have HR := Lib.hid hrow
        clear hrow
        go_wp2
        go_ret2
        exact ⟨_, _, rfl, HR.out, hb⟩
  · rw [ho] at HO
    rw [ho]
    clear ho
    go_enter Tryd.func25, Tryd.ntmps25
    go_wp2_with (go_at_call 18; refine (HO.out _).mono ?_; rintro e w1 ⟨rfl, hb1⟩; have hsz1 := hb1.size)
    go_ret2
    exact ⟨_, _, rfl, TRow.nil (Nat.le_refl _), hb1.alloc hsz1 _⟩
end Go.Proofs.YtmfcknlpbliehaaDoor

/- The program's lettersOfTable, VotesOfTable. -/
namespace Go.Proofs.YtmfcknlpbliehaaDoor
open Go.RowKit
set_option linter.unusedVariables false
def letR (xss : List (List Int)) : Option (List UInt8) := pRows (totK xss 4) 0 (List.replicate (totK xss 4) 0) xss
def letO (xss : List (List Int)) : Option (List UInt8) := if xss.length = 4 ∧ totK xss 4 ≤ 16 then letR xss else none
def letV (xss : List (List Int)) : ByteArray := strOf ((letO xss).getD [])
def letOk (xss : List (List Int)) : Bool := (letO xss).isSome
theorem let_none {xss : List (List Int)} (h : letO xss = none) : letV xss = strOf [] ∧ letOk xss = false := by unfold letV letOk; rw [h]; exact ⟨rfl, rfl⟩
theorem let_some {xss : List (List Int)} {O : List UInt8} (h : letO xss = some O) : letV xss = strOf O ∧ letOk xss = true := by unfold letV letOk; rw [h]; exact ⟨rfl, rfl⟩
theorem let_big {xss : List (List Int)} (h : 16 < totK xss 4) : letO xss = none := by unfold letO; rw [if_neg (by omega)]
theorem let_far {xss : List (List Int)} (h : ¬ xss.length = 4) : letO xss = none := by unfold letO; rw [if_neg (by omega)]
theorem let_is {xss : List (List Int)} (h4 : xss.length = 4) (h16 : totK xss 4 ≤ 16) : letO xss = letR xss := by unfold letO; rw [if_pos ⟨h4, h16⟩]
theorem pStep_yes {n i : Nat} {O : List UInt8} {x : Int} (h1 : 1 ≤ x ∧ x ≤ n) : pStep n i O x = some (O.set (x.toNat - 1) (ltr i)) := by unfold pStep; rw [if_pos h1]
theorem pStep_no {n i : Nat} {O : List UInt8} {x : Int} (h : ¬ (1 ≤ x ∧ x ≤ n)) : pStep n i O x = none := by unfold pStep; rw [if_neg h]
set_option maxRecDepth 100000 in
set_option maxHeartbeats 8000000 in
theorem letters_ret (v : Value) (xss : List (List Int)) (w : World) (h : MRows w v xss) (hl : ∀ k, k < xss.length → (xss.getD k []).length ≤ 1048576) (hl2 : xss.length ≤ 1048576) :
    Calls Tryd.prog 24 #[v] w (Ret w (.tuple #[.string (letV xss), .bool (letOk xss)])) := by
  obtain ⟨i0, hi0, hz0, hz1, hz2⟩ := info_parts bytInfo
  by_cases h4 : xss.length = 4
  case neg =>
    obtain ⟨e1, e2⟩ := let_none (let_far h4)
    obtain ⟨A, c, rfl⟩ := h.rows.shape
    rw [e1, e2]
    have q : (((xss.length : Nat) : Int) == 4) = false := by simp; omega
    clear e1 e2 h hl h4
    go_enter Tryd.func24, Tryd.ntmps24
    go_wp2
    go_ret2
    exact ⟨rfl, Below.refl _ _⟩
  obtain ⟨g, o, c, rfl, hg, hc⟩ := h.rows.cells (by omega)
  rw [h4] at hc ⊢
  have HC := Lib.hid hc
  have H4 := Lib.hid h4
  have HL : Hid (∀ k, k < 4 → (xss.getD k []).length ≤ 1048576) := Lib.hid fun k hk => hl k (by omega)
  have HTS : Hid (∀ j, totK xss (j + 1) = totK xss j + (xss.getD j []).length) := Lib.hid fun j => rfl
  have HTL : Hid (∀ j, j ≤ 4 → totK xss j ≤ 1048576 * j) := Lib.hid (by
    intro j
    induction j with
    | zero => intro _; exact Nat.le_refl _
    | succ j ih => intro hj; have := ih (by omega); have := hl j (by omega); rw [totK]; omega)
  clear h hc hl hl2 h4
  go_enter Tryd.func24, Tryd.ntmps24
  go_wp2
  go_loopw [4, 17] (fun nv iv wr => ∃ j : Nat, j ≤ 4 ∧ iv = .int .i64 (j : Int) ∧ nv = .int .i64 ((totK xss j : Nat) : Int) ∧ Below w.heap.size w wr) (fun _ iv _ => 4 - (intOf iv).toNat)
  case atStart => exact ⟨0, Nat.zero_le _, rfl, rfl, Below.refl _ _⟩
  case round =>
    obtain ⟨j, hj, rfl, rfl, hb⟩ := hrel
    by_cases hlt : j < 4
    · obtain ⟨u, hu1, hu2⟩ := HC.out j hlt
      have e1 := (hb.cell (p := ⟨g, o + j, none⟩) hg).trans hu1
      obtain ⟨A1, c1, rfl⟩ := hu2.shape
      have hll := HL.out j hlt
      have hts := HTL.out j (by omega)
      have HS := Lib.hid (HTS.out j)
      have HBB := Lib.hid hb
      clear hu1 hu2 hb
      generalize totK xss j = tj at *
      generalize hr : (xss.getD j []).length = lr at *
      clear hr
      go_wp2
      go_roundw
      case rel => exact ⟨j + 1, by omega, by go_num, by rw [HS.out]; go_num, HBB.out⟩
      first | (simp [intOf]; done) | (simp [intOf]; omega)
    · obtain rfl : j = 4 := by omega
      have HBB := Lib.hid hb
      have htl := HTL.out 4 (Nat.le_refl _)
      clear hb
      by_cases hbig : 16 < totK xss 4
      · have HE : Hid (Ending.returned (.tuple #[.string ⟨#[]⟩, .bool false]) = Ending.returned (.tuple #[.string (letV xss), .bool (letOk xss)])) := Lib.hid (by rw [(let_none (let_big hbig)).1, (let_none (let_big hbig)).2]; rfl)
        generalize totK xss 4 = n at *
        go_wp2
        go_ret2
        exact ⟨HE.out, HBB.out⟩
      have h16 : totK xss 4 ≤ 16 := by omega
      have HIS := Lib.hid (let_is H4.out h16)
      obtain ⟨n, hnn⟩ : ∃ n, totK xss 4 = n := ⟨_, rfl⟩
      have HNN := Lib.hid hnn
      have HRL : Hid (∀ j, j < 4 → (xss.getD j []).length ≤ 16) := Lib.hid fun j hj => by have h1 := HTS.out j; have h2 := totK_le xss (j := j + 1) 4 (by omega); omega
      have HR0 : Hid (pRows n 0 (List.replicate n 0) (xss.drop 0) = letR xss) := Lib.hid (by unfold letR; rw [hnn]; rfl)
      rw [hnn] at h16 ⊢
      have hgt2 : decide (16 < n) = false := decide_eq_false (by omega)
      have hgt3 : decide ((16 : Int) < (n : Int)) = false := decide_eq_false (by omega)
      have HIN : Hid (∀ (x : Int) (X : World) (gb : Nat), gb = X.heap.size → Calls Tryd.prog 37 #[.int .i64 1, .int .i64 (n : Int), .slice (some ⟨gb, 0, none⟩) 1 1] (X.alloc (.cells #[.int .i64 x] 3)) fun e w' => e = .returned (.bool (inBd 1 (n : Int) x)) ∧ Below X.heap.size X w') := Lib.hid fun x X gb e => by subst e; exact within_lit 1 (n : Int) x X
      have HBAD : Hid (letR xss = none → Ending.returned (.tuple #[.string ⟨#[]⟩, .bool false]) = Ending.returned (.tuple #[.string (letV xss), .bool (letOk xss)])) := Lib.hid fun hx => by
        rw [(let_none (HIS.out.trans hx)).1, (let_none (HIS.out.trans hx)).2]; rfl
      have HFIN : Hid (∀ O, letR xss = some O → Ending.returned (.tuple #[.string (strOf O), .bool true]) = Ending.returned (.tuple #[.string (letV xss), .bool (letOk xss)])) := Lib.hid fun O hO => by
        rw [(let_some (HIS.out.trans hO)).1, (let_some (HIS.out.trans hO)).2]
      have HDR : Hid (∀ i, i < 4 → xss.drop i = xss.getD i [] :: xss.drop (i + 1)) := Lib.hid fun i hi => by
        have hl : i < xss.length := by rw [H4.out]; exact hi
        rw [List.drop_eq_getElem_cons hl, List.getD_eq_getElem?_getD, List.getElem?_eq_getElem hl]; rfl
      have HD4 : Hid (xss.drop 4 = []) := Lib.hid (List.drop_eq_nil_of_le (by rw [H4.out]; exact Nat.le_refl _))
      clear hnn HTS HTL HNN H4 HIS htl hbig
      generalize letR xss = RES at *
      generalize letV xss = VV at *
      generalize letOk xss = VO at *
      go_wp2_with (refine wpList_make_full _ rfl (.tmp 28) (.tmp 28) 46 rfl wr.heap.size 5 i0 (.int .u8 0) 1 Tryd.underlying46 hi0 hz0 hz1 .i64 .i64 _ _ n rfl rfl (by omega) (by omega) (by rw [hz2]; omega) (by unfold maxLen; omega) (Nat.le_refl _) ?_; intro w2 hown2 hgrow2)
      have HL0 : Hid (VtL w wr.heap.size n (List.replicate n 0) w2) := Lib.hid ⟨by simp, (BOwn.of_own hown2 (by simp) (by rw [madeOne _ rfl]; simp [bv])).mono HBB.out.size, HBB.out.trans (((Below.refl _ _).grown hgrow2 (Nat.le_refl _) (by simp)).mono HBB.out.size)⟩
      obtain ⟨b, hbq⟩ : ∃ b, wr.heap.size = b := ⟨_, rfl⟩
      rw [hbq] at HL0 ⊢
      clear hbq hown2 hgrow2 HBB hgt2
      go_loopw [32] (fun iv wr => ∃ (i : Nat) (O : List UInt8), i ≤ 4 ∧ iv = .int .i64 (i : Int) ∧ pRows n i O (xss.drop i) = RES ∧ VtL w b n O wr) (fun iv _ => 4 - (intOf iv).toNat)
      case atStart => exact ⟨0, _, Nat.zero_le _, rfl, HR0.out, HL0.out⟩
      case round =>
        obtain ⟨i, O, hi, rfl, hR, hL⟩ := hrel
        clear HR0 HL0
        have HLL := Lib.hid hL
        have HRR := Lib.hid hR
        clear hL hR
        by_cases hlt : i < 4
        case neg =>
          obtain rfl : i = 4 := by omega
          have hR := HRR.out
          rw [HD4.out] at hR
          have HE := Lib.hid (HFIN.out O hR.symm)
          have hcv := run_str_own HLL.out.r
          clear hR HRR HFIN HBAD
          generalize strOf O = sO at *
          go_wp2
          go_ret2
          exact ⟨HE.out, HLL.out.l⟩
        obtain ⟨u, hu1, hu2⟩ := HC.out i hlt
        have e1 := (HLL.out.l.cell (p := ⟨g, o + i, none⟩) hg).trans hu1
        have HUW := Lib.hid hu2
        have hR := HRR.out
        rw [HDR.out i hlt] at hR
        have hrl := HRL.out i hlt
        generalize hrw : xss.getD i [] = r at *
        clear hrw
        obtain ⟨A1, c1, rfl⟩ := hu2.shape
        have HR1 : Hid ((pRow n i O (r.drop 0)).bind (fun O' => pRows n (i + 1) O' (xss.drop (i + 1))) = RES) := Lib.hid hR
        clear hu1 hu2 hR HRR HFIN HRL HD4
        have hi9 : i = 0 ∨ i = 1 ∨ i = 2 ∨ i = 3 := by omega
        rcases hi9 with rfl | rfl | rfl | rfl
        · rw [Nat.add_zero] at e1
          rw [show ((0 : Nat) : Int) = 0 from rfl]
          go_wp2
          go_loopw [39] (fun jv wq => ∃ (j : Nat) (O : List UInt8), j ≤ r.length ∧ jv = .int .i64 (j : Int) ∧ (pRow n 0 O (r.drop j)).bind (fun O' => pRows n (0 + 1) O' (xss.drop (0 + 1))) = RES ∧ VtL w b n O wq) (fun jv _ => r.length - (intOf jv).toNat)
          case atStart => exact ⟨0, O, Nat.zero_le _, rfl, HR1.out, HLL.out⟩
          case round =>
            obtain ⟨j, O2, hj, rfl, hR, hL⟩ := hrel
            clear HR1 HLL
            have HLL := Lib.hid hL
            have HU := Lib.hid (HUW.out.below hL.l)
            have HRR := Lib.hid hR
            clear hL hR
            by_cases hlt2 : j < r.length
            case neg =>
              obtain rfl : j = r.length := by omega
              have hR := HRR.out
              rw [List.drop_length] at hR
              have HRN : Hid (pRows n (0 + 1) O2 (xss.drop (0 + 1)) = RES) := Lib.hid hR
              clear hR HRR HDR HC
              go_wp2
              go_roundw
              case rel => exact ⟨0 + 1, O2, by omega, by go_num, HRN.out, HLL.out⟩
              first | (simp [intOf]; done) | (simp [intOf]; omega)
            obtain ⟨g1, o1, cc1, hv1, hg1, hcc⟩ := HU.out.cells (by omega)
            have hA : A1 = some ⟨g1, o1, none⟩ := by injection hv1
            subst hA
            clear hv1
            have ej := hcc j hlt2
            have hRD : r.drop j = r.getD j 0 :: r.drop (j + 1) := by
              rw [List.drop_eq_getElem_cons hlt2, List.getD_eq_getElem?_getD, List.getElem?_eq_getElem hlt2]; rfl
            have hR := HRR.out
            rw [hRD] at hR
            clear hRD HRR HDR HC hcc
            generalize r.getD j 0 = x at *
            have hR2 : ((pStep n 0 O2 x).bind fun q' => pRow n 0 q' (r.drop (j + 1))).bind (fun q => pRows n (0 + 1) q (xss.drop (0 + 1))) = RES := hR
            have HBD : Hid (pStep n 0 O2 x = none → RES = none) := Lib.hid fun h => by rw [h] at hR2; exact hR2.symm
            have HGO : Hid (∀ q', pStep n 0 O2 x = some q' → (pRow n 0 q' (r.drop (j + 1))).bind (fun q => pRows n (0 + 1) q (xss.drop (0 + 1))) = RES) := Lib.hid fun q' h => by rw [h] at hR2; exact hR2
            clear hR hR2
            have HIX := Lib.hid fun X gb e => HIN.out x X gb e
            by_cases hx : 1 ≤ x ∧ x ≤ (n : Int)
            case neg =>
              have hib : inBd 1 (n : Int) x = false := by unfold inBd; rw [Bool.and_eq_false_iff, decide_eq_false_iff_not, decide_eq_false_iff_not]; omega
              have HE := Lib.hid (HBAD.out (HBD.out (pStep_no hx)))
              rw [hib] at HIX
              clear hib hx HBD HGO HBAD HIN
              go_wp2_with (go_at_call 37; refine (HIX.out _ _ rfl).mono ?_; rintro e w5 ⟨rfl, hb5⟩)
              go_ret2
              exact ⟨HE.out, HLL.out.l.trans (hb5.mono HLL.out.l.size)⟩
            obtain ⟨p, rfl⟩ : ∃ p : Nat, x = (p : Int) + 1 := ⟨x.toNat - 1, by omega⟩
            have hpn : p < n := by omega
            have hp2 : (p : Int) < (n : Int) := by omega
            have hpx : ((p : Int) + 1).toNat - 1 = p := by omega
            have hib : inBd 1 (n : Int) ((p : Int) + 1) = true := by unfold inBd; rw [Bool.and_eq_true, decide_eq_true_iff, decide_eq_true_iff]; omega
            rw [hib] at HIX
            have HST := Lib.hid (pStep_yes (i := 0) (O := O2) hx)
            have hgo := HGO.out _ HST.out
            rw [hpx] at hgo
            have HG := Lib.hid hgo
            have hlb := HLL.out.r.blk b rfl
            have HP := Lib.hid hpn
            clear hib hpx HIN hgo HST HGO HBD HBAD hx
            have HSET : Hid (∀ W, VtL w b n O2 W → VtL w b n (O2.set p (ltr 0)) (W.setCell ⟨b, p, none⟩ (.int .u8 97))) := Lib.hid fun W h => h.set p (ltr 0)
            go_wp2_with (go_at_call 37; refine (HIX.out _ _ rfl).mono ?_; rintro e w5 ⟨rfl, hb5⟩; have HL5 := Lib.hid (HLL.out.below hb5); have hcb := HL5.out.cell HP.out; have hfb := HL5.out.r.free p; clear hb5)
            go_roundw
            case rel => exact ⟨j + 1, O2.set p (ltr 0), by omega, by go_num, HG.out, HSET.out _ HL5.out⟩
            first | (simp [intOf]; done) | (simp [intOf]; omega)
        · rw [show ((1 : Nat) : Int) = 1 from rfl]
          go_wp2
          go_loopw [39] (fun jv wq => ∃ (j : Nat) (O : List UInt8), j ≤ r.length ∧ jv = .int .i64 (j : Int) ∧ (pRow n 1 O (r.drop j)).bind (fun O' => pRows n (1 + 1) O' (xss.drop (1 + 1))) = RES ∧ VtL w b n O wq) (fun jv _ => r.length - (intOf jv).toNat)
          case atStart => exact ⟨0, O, Nat.zero_le _, rfl, HR1.out, HLL.out⟩
          case round =>
            obtain ⟨j, O2, hj, rfl, hR, hL⟩ := hrel
            clear HR1 HLL
            have HLL := Lib.hid hL
            have HU := Lib.hid (HUW.out.below hL.l)
            have HRR := Lib.hid hR
            clear hL hR
            by_cases hlt2 : j < r.length
            case neg =>
              obtain rfl : j = r.length := by omega
              have hR := HRR.out
              rw [List.drop_length] at hR
              have HRN : Hid (pRows n (1 + 1) O2 (xss.drop (1 + 1)) = RES) := Lib.hid hR
              clear hR HRR HDR HC
              go_wp2
              go_roundw
              case rel => exact ⟨1 + 1, O2, by omega, by go_num, HRN.out, HLL.out⟩
              first | (simp [intOf]; done) | (simp [intOf]; omega)
            obtain ⟨g1, o1, cc1, hv1, hg1, hcc⟩ := HU.out.cells (by omega)
            have hA : A1 = some ⟨g1, o1, none⟩ := by injection hv1
            subst hA
            clear hv1
            have ej := hcc j hlt2
            have hRD : r.drop j = r.getD j 0 :: r.drop (j + 1) := by
              rw [List.drop_eq_getElem_cons hlt2, List.getD_eq_getElem?_getD, List.getElem?_eq_getElem hlt2]; rfl
            have hR := HRR.out
            rw [hRD] at hR
            clear hRD HRR HDR HC hcc
            generalize r.getD j 0 = x at *
            have hR2 : ((pStep n 1 O2 x).bind fun q' => pRow n 1 q' (r.drop (j + 1))).bind (fun q => pRows n (1 + 1) q (xss.drop (1 + 1))) = RES := hR
            have HBD : Hid (pStep n 1 O2 x = none → RES = none) := Lib.hid fun h => by rw [h] at hR2; exact hR2.symm
            have HGO : Hid (∀ q', pStep n 1 O2 x = some q' → (pRow n 1 q' (r.drop (j + 1))).bind (fun q => pRows n (1 + 1) q (xss.drop (1 + 1))) = RES) := Lib.hid fun q' h => by rw [h] at hR2; exact hR2
            clear hR hR2
            have HIX := Lib.hid fun X gb e => HIN.out x X gb e
            by_cases hx : 1 ≤ x ∧ x ≤ (n : Int)
            case neg =>
              have hib : inBd 1 (n : Int) x = false := by unfold inBd; rw [Bool.and_eq_false_iff, decide_eq_false_iff_not, decide_eq_false_iff_not]; omega
              have HE := Lib.hid (HBAD.out (HBD.out (pStep_no hx)))
              rw [hib] at HIX
              clear hib hx HBD HGO HBAD HIN
              go_wp2_with (go_at_call 37; refine (HIX.out _ _ rfl).mono ?_; rintro e w5 ⟨rfl, hb5⟩)
              go_ret2
              exact ⟨HE.out, HLL.out.l.trans (hb5.mono HLL.out.l.size)⟩
            obtain ⟨p, rfl⟩ : ∃ p : Nat, x = (p : Int) + 1 := ⟨x.toNat - 1, by omega⟩
            have hpn : p < n := by omega
            have hp2 : (p : Int) < (n : Int) := by omega
            have hpx : ((p : Int) + 1).toNat - 1 = p := by omega
            have hib : inBd 1 (n : Int) ((p : Int) + 1) = true := by unfold inBd; rw [Bool.and_eq_true, decide_eq_true_iff, decide_eq_true_iff]; omega
            rw [hib] at HIX
            have HST := Lib.hid (pStep_yes (i := 1) (O := O2) hx)
            have hgo := HGO.out _ HST.out
            rw [hpx] at hgo
            have HG := Lib.hid hgo
            have hlb := HLL.out.r.blk b rfl
            have HP := Lib.hid hpn
            clear hib hpx HIN hgo HST HGO HBD HBAD hx
            have HSET : Hid (∀ W, VtL w b n O2 W → VtL w b n (O2.set p (ltr 1)) (W.setCell ⟨b, p, none⟩ (.int .u8 98))) := Lib.hid fun W h => h.set p (ltr 1)
            go_wp2_with (go_at_call 37; refine (HIX.out _ _ rfl).mono ?_; rintro e w5 ⟨rfl, hb5⟩; have HL5 := Lib.hid (HLL.out.below hb5); have hcb := HL5.out.cell HP.out; have hfb := HL5.out.r.free p; clear hb5)
            go_roundw
            case rel => exact ⟨j + 1, O2.set p (ltr 1), by omega, by go_num, HG.out, HSET.out _ HL5.out⟩
            first | (simp [intOf]; done) | (simp [intOf]; omega)
        · rw [show ((2 : Nat) : Int) = 2 from rfl]
          go_wp2
          go_loopw [39] (fun jv wq => ∃ (j : Nat) (O : List UInt8), j ≤ r.length ∧ jv = .int .i64 (j : Int) ∧ (pRow n 2 O (r.drop j)).bind (fun O' => pRows n (2 + 1) O' (xss.drop (2 + 1))) = RES ∧ VtL w b n O wq) (fun jv _ => r.length - (intOf jv).toNat)
          case atStart => exact ⟨0, O, Nat.zero_le _, rfl, HR1.out, HLL.out⟩
          case round =>
            obtain ⟨j, O2, hj, rfl, hR, hL⟩ := hrel
            clear HR1 HLL
            have HLL := Lib.hid hL
            have HU := Lib.hid (HUW.out.below hL.l)
            have HRR := Lib.hid hR
            clear hL hR
            by_cases hlt2 : j < r.length
            case neg =>
              obtain rfl : j = r.length := by omega
              have hR := HRR.out
              rw [List.drop_length] at hR
              have HRN : Hid (pRows n (2 + 1) O2 (xss.drop (2 + 1)) = RES) := Lib.hid hR
              clear hR HRR HDR HC
              go_wp2
              go_roundw
              case rel => exact ⟨2 + 1, O2, by omega, by go_num, HRN.out, HLL.out⟩
              first | (simp [intOf]; done) | (simp [intOf]; omega)
            obtain ⟨g1, o1, cc1, hv1, hg1, hcc⟩ := HU.out.cells (by omega)
            have hA : A1 = some ⟨g1, o1, none⟩ := by injection hv1
            subst hA
            clear hv1
            have ej := hcc j hlt2
            have hRD : r.drop j = r.getD j 0 :: r.drop (j + 1) := by
              rw [List.drop_eq_getElem_cons hlt2, List.getD_eq_getElem?_getD, List.getElem?_eq_getElem hlt2]; rfl
            have hR := HRR.out
            rw [hRD] at hR
            clear hRD HRR HDR HC hcc
            generalize r.getD j 0 = x at *
            have hR2 : ((pStep n 2 O2 x).bind fun q' => pRow n 2 q' (r.drop (j + 1))).bind (fun q => pRows n (2 + 1) q (xss.drop (2 + 1))) = RES := hR
            have HBD : Hid (pStep n 2 O2 x = none → RES = none) := Lib.hid fun h => by rw [h] at hR2; exact hR2.symm
            have HGO : Hid (∀ q', pStep n 2 O2 x = some q' → (pRow n 2 q' (r.drop (j + 1))).bind (fun q => pRows n (2 + 1) q (xss.drop (2 + 1))) = RES) := Lib.hid fun q' h => by rw [h] at hR2; exact hR2
            clear hR hR2
            have HIX := Lib.hid fun X gb e => HIN.out x X gb e
            by_cases hx : 1 ≤ x ∧ x ≤ (n : Int)
            case neg =>
              have hib : inBd 1 (n : Int) x = false := by unfold inBd; rw [Bool.and_eq_false_iff, decide_eq_false_iff_not, decide_eq_false_iff_not]; omega
              have HE := Lib.hid (HBAD.out (HBD.out (pStep_no hx)))
              rw [hib] at HIX
              clear hib hx HBD HGO HBAD HIN
              go_wp2_with (go_at_call 37; refine (HIX.out _ _ rfl).mono ?_; rintro e w5 ⟨rfl, hb5⟩)
              go_ret2
              exact ⟨HE.out, HLL.out.l.trans (hb5.mono HLL.out.l.size)⟩
            obtain ⟨p, rfl⟩ : ∃ p : Nat, x = (p : Int) + 1 := ⟨x.toNat - 1, by omega⟩
            have hpn : p < n := by omega
            have hp2 : (p : Int) < (n : Int) := by omega
            have hpx : ((p : Int) + 1).toNat - 1 = p := by omega
            have hib : inBd 1 (n : Int) ((p : Int) + 1) = true := by unfold inBd; rw [Bool.and_eq_true, decide_eq_true_iff, decide_eq_true_iff]; omega
            rw [hib] at HIX
            have HST := Lib.hid (pStep_yes (i := 2) (O := O2) hx)
            have hgo := HGO.out _ HST.out
            rw [hpx] at hgo
            have HG := Lib.hid hgo
            have hlb := HLL.out.r.blk b rfl
            have HP := Lib.hid hpn
            clear hib hpx HIN hgo HST HGO HBD HBAD hx
            have HSET : Hid (∀ W, VtL w b n O2 W → VtL w b n (O2.set p (ltr 2)) (W.setCell ⟨b, p, none⟩ (.int .u8 99))) := Lib.hid fun W h => h.set p (ltr 2)
            go_wp2_with (go_at_call 37; refine (HIX.out _ _ rfl).mono ?_; rintro e w5 ⟨rfl, hb5⟩; have HL5 := Lib.hid (HLL.out.below hb5); have hcb := HL5.out.cell HP.out; have hfb := HL5.out.r.free p; clear hb5)
            go_roundw
            case rel => exact ⟨j + 1, O2.set p (ltr 2), by omega, by go_num, HG.out, HSET.out _ HL5.out⟩
            first | (simp [intOf]; done) | (simp [intOf]; omega)
        · rw [show ((3 : Nat) : Int) = 3 from rfl]
          go_wp2
          go_loopw [39] (fun jv wq => ∃ (j : Nat) (O : List UInt8), j ≤ r.length ∧ jv = .int .i64 (j : Int) ∧ (pRow n 3 O (r.drop j)).bind (fun O' => pRows n (3 + 1) O' (xss.drop (3 + 1))) = RES ∧ VtL w b n O wq) (fun jv _ => r.length - (intOf jv).toNat)
          case atStart => exact ⟨0, O, Nat.zero_le _, rfl, HR1.out, HLL.out⟩
          case round =>
            obtain ⟨j, O2, hj, rfl, hR, hL⟩ := hrel
            clear HR1 HLL
            have HLL := Lib.hid hL
            have HU := Lib.hid (HUW.out.below hL.l)
            have HRR := Lib.hid hR
            clear hL hR
            by_cases hlt2 : j < r.length
            case neg =>
              obtain rfl : j = r.length := by omega
              have hR := HRR.out
              rw [List.drop_length] at hR
              have HRN : Hid (pRows n (3 + 1) O2 (xss.drop (3 + 1)) = RES) := Lib.hid hR
              clear hR HRR HDR HC
              go_wp2
              go_roundw
              case rel => exact ⟨3 + 1, O2, by omega, by go_num, HRN.out, HLL.out⟩
              first | (simp [intOf]; done) | (simp [intOf]; omega)
            obtain ⟨g1, o1, cc1, hv1, hg1, hcc⟩ := HU.out.cells (by omega)
            have hA : A1 = some ⟨g1, o1, none⟩ := by injection hv1
            subst hA
            clear hv1
            have ej := hcc j hlt2
            have hRD : r.drop j = r.getD j 0 :: r.drop (j + 1) := by
              rw [List.drop_eq_getElem_cons hlt2, List.getD_eq_getElem?_getD, List.getElem?_eq_getElem hlt2]; rfl
            have hR := HRR.out
            rw [hRD] at hR
            clear hRD HRR HDR HC hcc
            generalize r.getD j 0 = x at *
            have hR2 : ((pStep n 3 O2 x).bind fun q' => pRow n 3 q' (r.drop (j + 1))).bind (fun q => pRows n (3 + 1) q (xss.drop (3 + 1))) = RES := hR
            have HBD : Hid (pStep n 3 O2 x = none → RES = none) := Lib.hid fun h => by rw [h] at hR2; exact hR2.symm
            have HGO : Hid (∀ q', pStep n 3 O2 x = some q' → (pRow n 3 q' (r.drop (j + 1))).bind (fun q => pRows n (3 + 1) q (xss.drop (3 + 1))) = RES) := Lib.hid fun q' h => by rw [h] at hR2; exact hR2
            clear hR hR2
            have HIX := Lib.hid fun X gb e => HIN.out x X gb e
            by_cases hx : 1 ≤ x ∧ x ≤ (n : Int)
            case neg =>
              have hib : inBd 1 (n : Int) x = false := by unfold inBd; rw [Bool.and_eq_false_iff, decide_eq_false_iff_not, decide_eq_false_iff_not]; omega
              have HE := Lib.hid (HBAD.out (HBD.out (pStep_no hx)))
              rw [hib] at HIX
              clear hib hx HBD HGO HBAD HIN
              go_wp2_with (go_at_call 37; refine (HIX.out _ _ rfl).mono ?_; rintro e w5 ⟨rfl, hb5⟩)
              go_ret2
              exact ⟨HE.out, HLL.out.l.trans (hb5.mono HLL.out.l.size)⟩
            obtain ⟨p, rfl⟩ : ∃ p : Nat, x = (p : Int) + 1 := ⟨x.toNat - 1, by omega⟩
            have hpn : p < n := by omega
            have hp2 : (p : Int) < (n : Int) := by omega
            have hpx : ((p : Int) + 1).toNat - 1 = p := by omega
            have hib : inBd 1 (n : Int) ((p : Int) + 1) = true := by unfold inBd; rw [Bool.and_eq_true, decide_eq_true_iff, decide_eq_true_iff]; omega
            rw [hib] at HIX
            have HST := Lib.hid (pStep_yes (i := 3) (O := O2) hx)
            have hgo := HGO.out _ HST.out
            rw [hpx] at hgo
            have HG := Lib.hid hgo
            have hlb := HLL.out.r.blk b rfl
            have HP := Lib.hid hpn
            clear hib hpx HIN hgo HST HGO HBD HBAD hx
            have HSET : Hid (∀ W, VtL w b n O2 W → VtL w b n (O2.set p (ltr 3)) (W.setCell ⟨b, p, none⟩ (.int .u8 100))) := Lib.hid fun W h => h.set p (ltr 3)
            go_wp2_with (go_at_call 37; refine (HIX.out _ _ rfl).mono ?_; rintro e w5 ⟨rfl, hb5⟩; have HL5 := Lib.hid (HLL.out.below hb5); have hcb := HL5.out.cell HP.out; have hfb := HL5.out.r.free p; clear hb5)
            go_roundw
            case rel => exact ⟨j + 1, O2.set p (ltr 3), by omega, by go_num, HG.out, HSET.out _ HL5.out⟩
            first | (simp [intOf]; done) | (simp [intOf]; omega)
theorem pRow_len {n i : Nat} : ∀ (xs : List Int) (O O' : List UInt8), pRow n i O xs = some O' → O'.length = O.length
  | [], O, O', h => by have := Option.some.inj h; subst this; rfl
  | x :: xs, O, O', h => by
    have h' : (pStep n i O x).bind (fun q => pRow n i q xs) = some O' := h
    cases hs : pStep n i O x with
    | none => rw [hs] at h'; cases h'
    | some q =>
      rw [hs] at h'
      have h1 := pRow_len xs q O' h'
      unfold pStep at hs
      split at hs
      · have := Option.some.inj hs
        rw [h1, ← this, List.length_set]
      · cases hs
theorem pRowsL {n : Nat} : ∀ (rs : List (List Int)) (i : Nat) (O O' : List UInt8), pRows n i O rs = some O' → O'.length = O.length
  | [], i, O, O', h => by have := Option.some.inj h; subst this; rfl
  | r :: rs, i, O, O', h => by
    have h' : (pRow n i O r).bind (fun q => pRows n (i + 1) q rs) = some O' := h
    cases hs : pRow n i O r with
    | none => rw [hs] at h'; cases h'
    | some q =>
      rw [hs] at h'
      rw [pRowsL rs (i + 1) q O' h', pRow_len r O q hs]
theorem pRows_len {xss : List (List Int)} {O : List UInt8} (h : letR xss = some O) : O.length = totK xss 4 := by
  have := pRowsL xss 0 _ O h
  rw [this, List.length_replicate]
/-- what the program answers is what the model answers -/
theorem vot_let {xss : List (List Int)} (h4 : xss.length = 4) (h16 : totK xss 4 ≤ 16) : votO xss = (letO xss).bind fun O => if oB (strOf O) = true ∧ tbS (strOf O) (strOf O).size = xss then some O else none := by
  rw [let_is h4 h16]
  have hsound : ∀ O, votO xss = some O → oB (strOf O) = true ∧ tbS (strOf O) (strOf O).size = xss := fun O hO => by
    cases hr : votR xss with
    | none => rw [vot_bad hr] at hO; cases hO
    | some O2 =>
      have ht := vot_tab h4 h16 hr
      by_cases h0 : foTo (strOf O2) (strOf O2).size = 0
      · rw [vot_good h4 h16 hr h0] at hO
        have e := Option.some.inj hO
        subst e
        refine ⟨by unfold oB; rw [ht.1, decide_eq_true h0]; rfl, by rw [ht.2.1]; exact ht.2.2⟩
      · rw [vot_over hr h0] at hO; cases hO
  have hcomp : ∀ O, oB (strOf O) = true → tbS (strOf O) (strOf O).size = xss → votO xss = some O ∧ letR xss = some O := fun O h1 h2 => by
    have hv := (oB_of h1).1
    have hsz : totK xss 4 = (strOf O).size := by
      have e := four_rows h4
      have h3 := tbS_size (strOf O) hv
      rw [h2] at h3
      have h5 : xss.flatten.length = totK xss 4 := by
        have : totK xss 4 = 0 + (xss.getD 0 []).length + (xss.getD 1 []).length + (xss.getD 2 []).length + (xss.getD 3 []).length := rfl
        rw [this]
        generalize xss.getD 0 [] = a at *
        generalize xss.getD 1 [] = b at *
        generalize xss.getD 2 [] = c at *
        generalize xss.getD 3 [] = d at *
        subst e
        simp
        omega
      omega
    have hl : (strOf O).data.toList = O := strOf_list O
    have m1 := mRows_tb hv
    have p1 := pRows_tb hv
    rw [h2, ← hsz, hl] at m1 p1
    exact ⟨vot_good h4 h16 m1 (oB_of h1).2, p1⟩
  cases hv : votO xss with
  | some O =>
    obtain ⟨s1, s2⟩ := hsound O hv
    rw [(hcomp O s1 s2).2, Option.bind_some, if_pos ⟨s1, s2⟩]
  | none =>
    cases hl : letR xss with
    | none => rfl
    | some O =>
      rw [Option.bind_some, if_neg]
      rintro ⟨s1, s2⟩
      rw [(hcomp O s1 s2).1] at hv
      cases hv
set_option maxRecDepth 100000 in
set_option maxHeartbeats 8000000 in
theorem votesOfTable_ret (v : Value) (xss : List (List Int)) (w : World) (h : MRows w v xss) (hl : ∀ k, k < xss.length → (xss.getD k []).length ≤ 1048576) (hl2 : xss.length ≤ 1048576) :
    Calls Tryd.prog 10 #[v] w (Ret w (.tuple #[.string (votV xss), .bool (votOk xss)])) := by
  have HLT := Lib.hid (letters_ret v xss w h hl hl2)
  have HM := Lib.hid h
  cases hlo : letO xss with
  | none =>
    have hv : votO xss = none := by
      by_cases hc : xss.length = 4 ∧ totK xss 4 ≤ 16
      · rw [vot_let hc.1 hc.2, hlo]; rfl
      · unfold votO; rw [if_neg hc]
    rw [(let_none hlo).1, (let_none hlo).2] at HLT
    rw [(vot_none hv).1, (vot_none hv).2]
    obtain ⟨A, c, rfl⟩ := h.rows.shape
    clear h hl hl2 hlo hv
    go_enter Tryd.func10, Tryd.ntmps10
    go_wp2_with fail
    refine HLT.out.mono ?_
    rintro e w1 ⟨rfl, hb1⟩
    go_wp2_with fail
    go_ret2
    exact ⟨rfl, hb1⟩
  | some O =>
    have hc : xss.length = 4 ∧ totK xss 4 ≤ 16 := by
      unfold letO at hlo
      split at hlo
      · assumption
      · cases hlo
    have hvl := vot_let hc.1 hc.2
    rw [hlo, Option.bind_some] at hvl
    rw [(let_some hlo).1, (let_some hlo).2] at HLT
    have HTA : Hid (∀ W, Calls Tryd.prog 25 #[.string (strOf O)] W (TabsRet W (oB (strOf O)) (taV (strOf O)))) := Lib.hid fun W => table_ret (strOf O) W (by
      have : (strOf O).size = O.length := strOf_size O
      have hO : O.length ≤ 1048576 := by
        rw [let_is hc.1 hc.2] at hlo
        have := pRows_len hlo
        omega
      unfold maxLen; omega)
    have HX4 := Lib.hid hc.1
    have HXL : Hid (∀ k, k < 4 → (xss.getD k []).length ≤ 1048576) := Lib.hid fun k hk => hl k (by omega)
    obtain ⟨A, c, rfl⟩ := h.rows.shape
    cases ho : oB (strOf O) with
    | false =>
      rw [if_neg (fun x => by rw [ho] at x; exact absurd x.1 (by decide))] at hvl
      rw [(vot_none hvl).1, (vot_none hvl).2]
      rw [ho] at HTA
      clear h hl hl2 hlo hvl hc ho
      generalize strOf O = sO at *
      go_enter Tryd.func10, Tryd.ntmps10
      go_wp2_with fail
      refine HLT.out.mono ?_
      rintro e w1 ⟨rfl, hb1⟩
      go_wp2_with fail
      refine (HTA.out _).mono ?_
      rintro e w2 ⟨u, vs, rfl, ht, hb2⟩
      have HB2 := Lib.hid (hb1.trans (hb2.mono hb1.size))
      clear ht hb1 hb2
      go_wp2_with fail
      go_ret2
      exact ⟨rfl, HB2.out⟩
    | true =>
      have hta : taV (strOf O) = tbS (strOf O) (strOf O).size := by unfold taV; rw [if_pos ho]
      rw [ho, hta] at HTA
      have HSZ : Hid (∀ k, k < 4 → ((tbS (strOf O) (strOf O).size).getD k []).length ≤ 1048576) := Lib.hid fun k hk => by
        rw [tbS_get _ _ _ hk, tbRow_len]
        have h1 := vc_le (strOf O) k (strOf O).size
        have h2 := ((votB_iff _).1 (oB_of ho).1).1
        omega
      have HT4 : Hid ((tbS (strOf O) (strOf O).size).length = 4) := Lib.hid rfl
      have HRES : Hid (∀ b, decide (tbS (strOf O) (strOf O).size = xss) = b → Ret w (.tuple #[.string (votV xss), .bool (votOk xss)]) = Ret w (.tuple #[.string (if b = true then strOf O else strOf []), .bool b])) := Lib.hid fun b hb => by
        cases b with
        | false =>
          rw [if_neg (fun x => of_decide_eq_false hb x.2)] at hvl
          rw [(vot_none hvl).1, (vot_none hvl).2]; rfl
        | true =>
          rw [if_pos ⟨ho, of_decide_eq_true hb⟩] at hvl
          rw [(vot_some hvl).1, (vot_some hvl).2]; rfl
      clear h hl hl2 hlo hvl hc ho hta
      generalize tbS (strOf O) (strOf O).size = T at *
      obtain ⟨b, hb⟩ : ∃ b, decide (T = xss) = b := ⟨_, rfl⟩
      rw [HRES.out b hb]
      have HEQ : Hid (∀ W u, LRows W u T → LRows W (.slice A xss.length c) xss → Calls Tryd.prog 26 #[u, .slice A xss.length c, .func (.func 27) #[] #[]] W (Ret W (.bool b))) := Lib.hid fun W u h1 h2 => by
        have := eqRows_any u (.slice A xss.length c) T xss W h1 h2 HT4.out HX4.out HSZ.out HXL.out
        rwa [hb] at this
      clear hb HRES
      generalize strOf O = sO at *
      cases b with
      | false =>
        rw [if_neg (by decide)]
        go_enter Tryd.func10, Tryd.ntmps10
        go_wp2_with fail
        refine HLT.out.mono ?_
        rintro e w1 ⟨rfl, hb1⟩
        go_wp2_with fail
        refine (HTA.out _).mono ?_
        rintro e w2 ⟨u, vs, rfl, ht, hb2⟩
        have HB2 := Lib.hid (hb1.trans (hb2.mono hb1.size))
        have HU := Lib.hid ht.mrows.rows
        have HX := Lib.hid (HM.out.rows.below HB2.out)
        clear ht hb1 hb2
        go_wp2_with fail
        refine (HEQ.out _ _ HU.out HX.out).mono ?_
        rintro e w3 ⟨rfl, hb3⟩
        have HB3 := Lib.hid (HB2.out.trans (hb3.mono HB2.out.size))
        clear hb3
        go_wp2_with fail
        go_ret2
        exact ⟨rfl, HB3.out⟩
      | true =>
        rw [if_pos rfl]
        go_enter Tryd.func10, Tryd.ntmps10
        go_wp2_with fail
        refine HLT.out.mono ?_
        rintro e w1 ⟨rfl, hb1⟩
        go_wp2_with fail
        refine (HTA.out _).mono ?_
        rintro e w2 ⟨u, vs, rfl, ht, hb2⟩
        have HB2 := Lib.hid (hb1.trans (hb2.mono hb1.size))
        have HU := Lib.hid ht.mrows.rows
        have HX := Lib.hid (HM.out.rows.below HB2.out)
        clear ht hb1 hb2
        go_wp2_with fail
        refine (HEQ.out _ _ HU.out HX.out).mono ?_
        rintro e w3 ⟨rfl, hb3⟩
        have HB3 := Lib.hid (HB2.out.trans (hb3.mono HB2.out.size))
        clear hb3
        go_wp2_with fail
        go_ret2
        exact ⟨rfl, HB3.out⟩
end Go.Proofs.YtmfcknlpbliehaaDoor
