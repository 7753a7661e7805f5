/- Pack 32 of what FnExactOrderedOfRank needs: CoS, OrS. -/
import Derived.Test.YtmfcknlpbliehaaKFnExactOrderedOfRank31
/- CountOrdered: the model. -/
namespace Go.Proofs.Ytmfcknlpbliehaa
open Go.RowKit
set_option linter.unusedVariables false
theorem fac_one (n : Nat) : fac (max n 1) = fac n := by
  by_cases h : n = 0
  · subst h; rfl
  · rw [show max n 1 = n by omega]
def pdT (xss : List (List Int)) (i j : Nat) : Int := pd ((xss.take i).flatten ++ (xss.getD i []).take j)
theorem pdT_zero (xss : List (List Int)) (i : Nat) : pdT xss i 0 = pd ((xss.take i).flatten) := by unfold pdT; simp
theorem pdT_step {xss : List (List Int)} {i j : Nat} (h : j < (xss.getD i []).length) : pdT xss i (j + 1) = pdT xss i j * (xss.getD i []).getD j 0 := by
  unfold pdT
  generalize xss.getD i [] = row at *
  rw [List.take_succ_eq_append_getElem h, ← List.append_assoc, pd_snoc]
  congr 1
  rw [List.getD_eq_getElem?_getD, List.getElem?_eq_getElem h]
  rfl
theorem pdT_next {xss : List (List Int)} {i : Nat} (h : i < xss.length) : pdT xss i (xss.getD i []).length = pd ((xss.take (i + 1)).flatten) := by
  unfold pdT
  rw [List.take_length, List.take_succ_eq_append_getElem h, List.flatten_append, List.getD_eq_getElem?_getD, List.getElem?_eq_getElem h]
  simp
theorem pdT_bd {xss : List (List Int)} (hp : ∀ x, x ∈ xss.flatten → 1 ≤ x) {i : Nat} (h : i < xss.length) (j : Nat) : 1 ≤ pdT xss i j ∧ pdT xss i j ≤ pd xss.flatten := by
  have e : ((xss.take i).flatten ++ (xss.getD i []).take j) ++ ((xss.getD i []).drop j ++ (xss.drop (i + 1)).flatten) = xss.flatten := by
    rw [List.append_assoc, ← List.append_assoc ((xss.getD i []).take j), List.take_append_drop]
    rw [List.getD_eq_getElem?_getD, List.getElem?_eq_getElem h]
    show (xss.take i).flatten ++ (xss[i] ++ (xss.drop (i + 1)).flatten) = _
    rw [← List.flatten_cons, ← List.drop_eq_getElem_cons h, ← List.flatten_append, List.take_append_drop]
  have := pd_pre (l := (xss.take i).flatten ++ (xss.getD i []).take j) (r := (xss.getD i []).drop j ++ (xss.drop (i + 1)).flatten) (by rw [e]; exact hp)
  rw [e] at this
  exact this
set_option maxRecDepth 100000 in
set_option maxHeartbeats 1600000 in
theorem voCount_any (g0 o0 cc0 : Nat) (xs : List Int) (w : World) (hK : resB xs = true) (hg0 : g0 < w.heap.size) (hcc : 4 ≤ cc0 ∧ cc0 ≤ maxLen) (hcells0 : ∀ j, j < 4 → w.cell? ⟨g0, o0 + j, none⟩ = some (.int .i64 (xs.getD j 0))) :
    Calls Try.prog 10 #[.slice (some ⟨g0, o0, none⟩) 4 cc0] w (Ret w (.int .i64 (coV xs))) := by
  obtain ⟨hL16, hpos, hpd, hsum⟩ := hk_facts hK
  obtain ⟨a, b, c, d, rfl, h1, h2, h3, h4⟩ := res_q4 hK
  have c0 := hcells0 0 (by omega)
  have c1 := hcells0 1 (by omega)
  have c2 := hcells0 2 (by omega)
  have c3 := hcells0 3 (by omega)
  simp [q4] at c0 c1 c2 c3
  have hn : ((hkL (q4 a b c d)).length : Int) = (a : Int) + b + c + d := by rw [hsum]; simp [q4]; omega
  have HVH : Hid (∀ w1, w.heap.size ≤ w1.heap.size → (∀ j, j < 4 → w1.cell? ⟨g0, o0 + j, none⟩ = some (.int .i64 ((q4 a b c d).getD j 0))) → Calls Try.prog 19 #[.slice (some ⟨g0, o0, none⟩) 4 cc0] w1 (TabsNew w1 (hksTo (q4 a b c d) 4))) := Lib.hid fun w1 hs hc => voHooks_any g0 o0 cc0 _ w1 hK (Nat.lt_of_lt_of_le hg0 hs) hcc hc
  have HVW := Lib.hid (HVH.out w (Nat.le_refl _) hcells0)
  have HRL := Lib.hid (fun j hj => hkRow_16 hK j hj)
  have HLN : Hid ((hksTo (q4 a b c d) 4).length = 4) := Lib.hid (hksTo_len _ 4)
  have HCV : Hid (coV (q4 a b c d) = (fac (hkL (q4 a b c d)).length).tdiv (pd (hkL (q4 a b c d)))) := Lib.hid rfl
  have HFL : Hid (hkL (q4 a b c d) = (hksTo (q4 a b c d) 4).flatten) := Lib.hid rfl
  have HFB := Lib.hid fac_bd
  have HFS : Hid (∀ k, fac (k + 1) = fac k * ((k : Int) + 1)) := Lib.hid fun k => by rw [fac]; congr 1
  have HPB := Lib.hid (fun k => pd_takeB hpos k)
  have HPOS := Lib.hid hpos
  have hN : a + b + c + d = (hkL (q4 a b c d)).length := by omega
  have HN := Lib.hid hN
  clear hcells0 hK hsum HVH hpos hn
  generalize hksTo (q4 a b c d) 4 = xss at *
  generalize hkL (q4 a b c d) = L at *
  generalize coV (q4 a b c d) = R at *
  have hab : a + b + c + d ≤ 16 := h4
  clear h1 h2 h3 hN
  go_enter Try.func10, Try.ntmps10
  go_wp2
  refine wp_loop_rounds 5 ?_
  iterate 5 (rw [rounds_succ]; go_wp2)
  go_loop [6, 8] (fun f i => ∃ k : Nat, 1 ≤ k ∧ k ≤ max L.length 1 ∧ i = .int .i64 ((k : Int) + 1) ∧ f = .int .i64 (fac k)) (fun _ i => 18 - (intOf i).toNat)
  case atStart => exact ⟨1, by omega, by omega, rfl, rfl⟩
  case round =>
    obtain ⟨k, hk1, hk, rfl, rfl⟩ := hrel
    have hNN := HN.out
    by_cases hlt : k < L.length
    · have f1 := HFB.out (k + 1) (by omega)
      have HFS1 := Lib.hid (HFS.out k)
      rw [HFS1.out] at f1
      clear HFB HFS HPB HCV HFL HPOS HRL HVW
      generalize hF1 : fac (k + 1) = F1 at *
      have HF1 := Lib.hid hF1
      clear hF1
      generalize fac k = F0 at *
      have i1 : (k : Int) + 1 ≤ (a : Int) + b + c + d := by omega
      go_wp2
      refine ⟨⟨k + 1, by omega, by omega, by go_num, by rw [HF1.out, HFS1.out]⟩, ?_⟩
      first | (simp [intOf]; done) | (simp [intOf]; omega)
    · have i1 : ¬ (k : Int) + 1 ≤ (a : Int) + b + c + d := by omega
      have HFK : Hid (fac k = fac L.length) := Lib.hid (by rw [← fac_one L.length, show max L.length 1 = k by omega])
      rw [HFK.out]
      clear HFK HN hNN
      have f1 := HFB.out L.length hL16
      generalize hFF : fac L.length = F at *
      clear hFF HFB HFS
      have HPP := Lib.hid (HPB.out L.length)
      rw [List.take_length] at HPP
      go_wp2_with (go_at_call 19; refine HVW.out.mono ?_; rintro e w1 ⟨v1, vs1, rfl, hr1, hb1⟩; obtain ⟨g1, c1, rfl, hg1, hgm, hcl1⟩ := hr1.form HLN.out (by omega); have HT := Lib.hid hr1; have HCL1 := Lib.hid hcl1; clear hr1 hcl1)
      have HPOS2 := Lib.hid HPOS.out
      rw [HFL.out] at HPOS2
      have HBD := Lib.hid (fun i (hi : i < 4) j => pdT_bd HPOS2.out (i := i) (by have := HLN.out; omega) j)
      have HST := Lib.hid (fun i j => pdT_step (xss := xss) (i := i) (j := j))
      have HNX := Lib.hid (fun i (hi : i < 4) => pdT_next (xss := xss) (i := i) (by have := HLN.out; omega))
      have HZ := Lib.hid (pdT_zero xss)
      rw [← HFL.out] at HBD
      have HRW : Hid (∀ j, j < 4 → RInts w1 (vs1.getD j NilS) (xss.getD j [])) := Lib.hid fun j hj => RInts.of_row (HT.out.row j (by have := HLN.out; omega))
      have HE : Hid (pd ((xss.take 4).flatten) = pd L) := Lib.hid (by rw [HFL.out, List.take_of_length_le (by have := HLN.out; omega)])
      have HE0 : Hid (pd ((xss.take 0).flatten) = 1) := Lib.hid rfl
      clear HT HPB HPOS HPOS2 HVW
      go_loop [7, 34] (fun p i => ∃ k : Nat, k ≤ 4 ∧ i = .int .i64 (k : Int) ∧ p = .int .i64 (pd ((xss.take k).flatten))) (fun _ i => 4 - (intOf i).toNat)
      case atStart => exact ⟨0, Nat.zero_le _, rfl, by rw [HE0.out]⟩
      case round =>
        obtain ⟨q, hq, rfl, rfl⟩ := hrel
        by_cases hlt4 : q < 4
        · have e1 := HCL1.out q hlt4
          have hrr := HRW.out q hlt4
          obtain ⟨A3, c3', hsh⟩ := hrr.shape
          rw [hsh] at e1
          have HRR := Lib.hid hrr
          have HSH := Lib.hid hsh
          have HBD1 := Lib.hid (HBD.out q hlt4)
          have HST1 := Lib.hid (fun j => HST.out q j)
          have HNX1 := Lib.hid (HNX.out q hlt4)
          have hr16 := HRL.out q hlt4
          have q1 : decide ((q : Int) < 4) = true := decide_eq_true (by omega)
          rw [← HZ.out q]
          clear hrr hsh HBD HST HNX HZ HRW HE HE0 HCL1
          generalize hF1 : pd ((xss.take (q + 1)).flatten) = P1 at *
          have HF1 := Lib.hid hF1
          clear hF1
          generalize xss.getD q [] = row at *
          generalize pdT xss q = T at *
          have HRV : Hid (RInts w1 (.slice A3 row.length c3') row) := Lib.hid (by rw [← HSH.out]; exact HRR.out)
          clear HRR HSH
          go_wp2
          go_loop [7, 40] (fun p i => ∃ j : Nat, j ≤ row.length ∧ i = .int .i64 (j : Int) ∧ p = .int .i64 (T j)) (fun _ i => row.length - (intOf i).toNat)
          case atStart => exact ⟨0, Nat.zero_le _, rfl, rfl⟩
          case round =>
            obtain ⟨j, hj, rfl, rfl⟩ := hrel
            by_cases hltj : j < row.length
            · obtain ⟨g3, o3, cc3, hv3, hg3, hcells3⟩ := HRV.out.cells (by omega)
              have hA : A3 = some ⟨g3, o3, none⟩ := by injection hv3
              subst hA
              clear hv3
              have e2 := hcells3 j hltj
              clear hcells3
              have b0 := HBD1.out j
              have b1 := HBD1.out (j + 1)
              have HS := Lib.hid (HST1.out j hltj)
              rw [HS.out] at b1
              clear HBD1 HST1 HNX1 HRV
              generalize row.getD j 0 = x at *
              generalize hT1 : T (j + 1) = T1 at *
              have HT1 := Lib.hid hT1
              clear hT1
              generalize T j = T0 at *
              have b2 : T0 * x ≤ 100000000000000 := by omega
              go_wp2
              refine ⟨⟨j + 1, by omega, by go_num, by rw [HT1.out, HS.out]⟩, ?_⟩
              first | (simp [intOf]; done) | (simp [intOf]; omega)
            · obtain rfl : j = row.length := by omega
              rw [HNX1.out]
              go_wp2
              refine ⟨⟨q + 1, by omega, by go_num, by rw [HF1.out]⟩, ?_⟩
              first | (simp [intOf]; done) | (simp [intOf]; omega)
        · obtain rfl : q = 4 := by omega
          rw [HE.out]
          have p1 := HPP.out.1
          have HQ : Hid (F.tdiv (pd L) = F / pd L) := Lib.hid (Int.tdiv_eq_ediv_of_nonneg (by omega))
          clear HE HE0 HPP
          generalize pd L = P at *
          have m3 : (P == 0) = false := beq_eq_false_iff_ne.2 (by omega)
          go_wp2
          go_ret
          exact ⟨ret_int (by rw [HCV.out, HQ.out]), hb1⟩
end Go.Proofs.Ytmfcknlpbliehaa

/- The model's OrderedOfRank. -/
namespace Go.Proofs.Ytmfcknlpbliehaa
open Go.RowKit
set_option linter.unusedVariables false
theorem strOf_cons (s : ByteArray) (c : UInt8) (l : List UInt8) : s ++ strOf (c :: l) = (s ++ (⟨#[c]⟩ : ByteArray)) ++ strOf l := by
  apply ByteArray.ext
  apply Array.ext'
  simp [strOf, ByteArray.data_append]
theorem or_step {R p : Nat → Nat} {q i n : Nat} (hi : i < 4) (h1 : byS R p i ≤ q) (h2 : q < byS R p (i + 1)) (s : ByteArray) :
    s ++ strOf (lett (uw R (n + 1) p q)) = (s ++ abcd1 i) ++ strOf (lett (uw R n (up p i) (q - byS R p i))) := by
  rw [uw, ci_of hi h1 h2, abcd1_eq hi]
  exact strOf_cons s _ _
theorem rr_ok {a b c d : Nat} (h1 : b ≤ a) (h2 : c ≤ b) (h3 : d ≤ c) : Ok (rr a b c d) (rr a b c d) := ⟨fun _ _ => Nat.le_refl _, fun i hi => by
  have : i = 0 ∨ i = 1 ∨ i = 2 := by omega
  rcases this with e | e | e <;> subst e <;> simpa [rr]⟩
def strN (v : Value) : Nat := match v with | .string s => s.size | _ => 0
/-- what stands at a round: p so far, n on, rank q -/
structure OrAt (R : Nat → Nat) (F : Nat → Int) (T : ByteArray) (w : World) (gt : Nat) (p : Nat → Nat) (q n g c : Nat) (s : ByteArray) (wr : World) : Prop where
  ok : Ok R p
  lt : q < W R p
  tt : tot p + n = tot R
  sz : s.size + n ≤ 16
  tg : s ++ strOf (lett (uw R n p q)) = T
  cc : 4 ≤ c ∧ c ≤ maxLen
  c4 : C4 p g 0 (g + 1) (.slice none 0 0) wr
  tb : IRow wr gt (.slice (some ⟨gt, 0, none⟩) 83521 83521) (fr F 83521)
  bl : Below w.heap.size w wr
theorem OrAt.next {R : Nat → Nat} {F : Nat → Int} {T : ByteArray} {w : World} {gt : Nat} {p : Nat → Nat} {q n g c : Nat} {s : ByteArray} {wr w9 : World} (h : OrAt R F T w gt p q (n + 1) g c s wr) (i g5 c5 : Nat) (hi : i < 4) (hno : ¬ no R p i) (h1 : byS R p i ≤ q) (h2 : q < byS R p (i + 1)) (hcc : 4 ≤ c5 ∧ c5 ≤ maxLen) (hc : C4 (up p i) g5 0 (g5 + 1) (.slice none 0 0) w9) (hb : Below wr.heap.size wr w9) :
    OrAt R F T w gt (up p i) (q - byS R p i) n g5 c5 (s ++ abcd1 i) w9 :=
  ⟨h.ok.up hi hno, by rw [byS, byW_go hno] at h2; omega, by have := h.tt; rw [tot_up p hi]; omega, by have := h.sz; rw [ByteArray.size_append, abcd1_size hi]; omega, by rw [← or_step hi h1 h2]; exact h.tg, hcc, hc, h.tb.below hb, h.bl.trans (hb.mono h.bl.size)⟩
set_option maxRecDepth 100000 in
set_option maxHeartbeats 8000000 in
theorem specOrderedOfRank_ret (v : Value) (xs : List Int) (k9 : Int) (w : World) (h : RInts w v xs) (hl : xs.length ≤ 1048576) (hk : -9223372036854775808 ≤ k9 ∧ k9 ≤ 9223372036854775807) :
    Calls Try.prog 4 #[v, .int .i64 k9] w (Ret w (.tuple #[.string (orV xs k9), .bool (orB xs k9)])) := by
  have hkk := hk.1
  have hkk2 := hk.2
  have HV := Lib.hid (voResult_any v xs w h hl)
  rcases Bool.eq_false_or_eq_true (resB xs) with hr | hr
  · obtain ⟨a, b, c, d, rfl, h1, h2, h3, h16⟩ := (resB_iff xs).1 hr
    obtain ⟨g0, o0, cc0, rfl, hg0, hcells0⟩ := h.cells (by simp)
    have hroom := h.room _ _ _ rfl
    rw [show ([(a : Int), (b : Int), (c : Int), (d : Int)] : List Int).length = 4 from rfl] at hroom hcells0
    have HVC : Hid (∀ w1, Below w.heap.size w w1 → Calls Try.prog 10 #[.slice (some ⟨g0, o0, none⟩) 4 cc0] w1 (Ret w1 (.int .i64 (coV (q4 a b c d))))) := Lib.hid fun w1 hb => voCount_any g0 o0 cc0 (q4 a b c d) w1 hr (Nat.lt_of_lt_of_le hg0 hb.size) hroom (fun j hj => (hb.cell (p := ⟨g0, o0 + j, none⟩) hg0).trans (hcells0 j hj))
    have hcw := coV_eq h1 h2 h3 h16
    have hwb := W_bd (p := fun _ => 0) (rr_tot (a := a) (b := b) (c := c) (d := d) h16)
    have hcb : 0 ≤ coV (q4 a b c d) ∧ coV (q4 a b c d) ≤ 4294967296 := by rw [hcw]; omega
    have hob : orB (q4 a b c d) k9 = (decide (0 ≤ k9) && decide (k9 < coV (q4 a b c d))) := by unfold orB; rw [show resB (q4 a b c d) = true from hr, Bool.true_and]
    have HX : Hid (orV (q4 a b c d) k9 = if orB (q4 a b c d) k9 = true then strOf (lett (orL a b c d k9.toNat)) else ⟨#[]⟩) := Lib.hid rfl
    show Calls _ _ _ _ (Ret w (.tuple #[.string (orV (q4 a b c d) k9), .bool (orB (q4 a b c d) k9)]))
    rw [HX.out, hob]
    rw [hr] at HV
    rw [show ([(a : Int), (b : Int), (c : Int), (d : Int)] : List Int).length = 4 from rfl] at HV ⊢
    have HIN : Hid (∀ w1, Calls Try.prog 9 #[.int .i64 k9, .int .i64 0, .int .i64 (coV (q4 a b c d) - 1)] w1 fun e w' => e = .returned (.bool (inB k9 0 (coV (q4 a b c d) - 1))) ∧ w1 = w') := Lib.hid fun w1 => in_any _ _ _ _
    have hib : inB k9 0 (coV (q4 a b c d) - 1) = (decide (0 ≤ k9) && decide (k9 < coV (q4 a b c d))) := by unfold inB; congr 1; rw [Bool.eq_iff_iff, decide_eq_true_iff, decide_eq_true_iff]; omega
    rw [hib] at HIN
    by_cases hin : 0 ≤ k9 ∧ k9 < coV (q4 a b c d)
    case neg =>
      have hd : (decide (0 ≤ k9) && decide (k9 < coV (q4 a b c d))) = false := by rw [Bool.and_eq_false_iff, decide_eq_false_iff_not, decide_eq_false_iff_not]; omega
      rw [hd] at HIN ⊢
      clear h hr hcells0 hroom HX hob hib hd hin hcw
      generalize coV (q4 a b c d) = Q at *
      go_enter Try.func4, Try.ntmps4
      go_wp2_with (first | (go_at_call 8; refine HV.out.mono ?_; rintro e w1 ⟨rfl, hb1⟩) | (go_at_call 10; refine (HVC.out _ hb1).mono ?_; rintro e w2 ⟨rfl, hb2⟩) | (go_at_call 9; refine (HIN.out _).mono ?_; rintro e w3 ⟨rfl, rfl⟩))
      go_ret2
      exact ⟨rfl, hb1.trans (hb2.mono hb1.size)⟩
    case pos =>
      have hd : (decide (0 ≤ k9) && decide (k9 < coV (q4 a b c d))) = true := by rw [Bool.and_eq_true, decide_eq_true_iff, decide_eq_true_iff]; exact hin
      rw [hd] at HIN ⊢
      rw [if_pos rfl]
      obtain ⟨k0, rfl⟩ : ∃ k0 : Nat, k9 = (k0 : Int) := ⟨k9.toNat, by omega⟩
      rw [Int.toNat_natCast]
      have HC2 : Hid (∀ (W : World), Below w.heap.size w W → C4 (rr a b c d) g0 o0 W.heap.size (.slice none 0 0) W) := Lib.hid fun W hb => ⟨Nat.lt_of_lt_of_le hg0 hb.size, by have := hb.size; omega, (by intro e; cases e),
        (hb.cell (p := ⟨g0, o0, none⟩) hg0).trans (hcells0 0 (by omega)), (hb.cell (p := ⟨g0, o0 + 1, none⟩) hg0).trans (hcells0 1 (by omega)), (hb.cell (p := ⟨g0, o0 + 2, none⟩) hg0).trans (hcells0 2 (by omega)), (hb.cell (p := ⟨g0, o0 + 3, none⟩) hg0).trans (hcells0 3 (by omega))⟩
      obtain ⟨R, hR⟩ : ∃ R, rr a b c d = R := ⟨_, rfl⟩
      have HSM : Hid (sm R) := Lib.hid (hR ▸ rr_sm h1 h2 h3 h16)
      have HR16 : Hid (tot R ≤ 16) := Lib.hid (hR ▸ rr_tot h16)
      have HOKR : Hid (Ok R R) := Lib.hid (hR ▸ rr_ok h1 h2 h3)
      have HLT : Hid (k0 < W R (fun _ => 0)) := Lib.hid (by rw [← hR]; omega)
      have HTG : Hid ((⟨#[]⟩ : ByteArray) ++ strOf (lett (uw R (tot R) (fun _ => 0) k0)) = strOf (lett (orL a b c d k0))) := Lib.hid (by rw [← hR]; apply ByteArray.ext; apply Array.ext'; simp [ByteArray.data_append]; rfl)
      rw [hR] at HC2
      have HKB : Hid (k0 ≤ 4294967296) := Lib.hid (by omega)
      have hcb1 := hcb.1
      have hcb2 := hcb.2
      clear h hr hcells0 HX hob hib hd hin hcw hR h1 h2 h3 h16 hcb hwb hkk hkk2 hk
      generalize strOf (lett (orL a b c d k0)) = T at *
      generalize coV (q4 a b c d) = Q at *
      obtain ⟨i0, hi0, hz0, hz1, hz2⟩ := info_parts intInfo
      go_enter Try.func4, Try.ntmps4
      go_wp2_with (first
        | (go_at_call 8; refine HV.out.mono ?_; rintro e w1 ⟨rfl, hb1⟩)
        | (go_at_call 10; refine (HVC.out _ hb1).mono ?_; rintro e w2 ⟨rfl, hb2⟩; have HB2 := Lib.hid (hb1.trans (hb2.mono hb1.size)))
        | (go_at_call 9; refine (HIN.out _).mono ?_; rintro e w3 ⟨rfl, rfl⟩)
        | (refine wpList_make_full _ rfl (.const (.int .i64 4)) (.const (.int .i64 4)) 22 rfl w2.heap.size 3 i0 (.int .i64 0) 1 Try.underlying22 hi0 hz0 hz1 .i64 .i64 _ _ 4 rfl rfl (by omega) (by omega) (by rw [hz2]; omega) (by unfold maxLen; omega) (Nat.le_refl _) ?_; intro w4 hown1 hgrow1
           have hB4 : Below w2.heap.size w2 w4 := (Below.refl _ _).grown hgrow1 (Nat.le_refl _) (by simp)
           have hrow4 : IRow w4 w2.heap.size (.slice (some ⟨w2.heap.size, 0, none⟩) 4 4) (pL (fun _ => 0)) := IRow.of_own hown1 rfl (by rw [madeOne _ rfl]; simp [pL])
           have HB4 : Hid (Below w.heap.size w w4) := Lib.hid (HB2.out.trans (hB4.mono HB2.out.size))
           have hlt4 := (hrow4.form' (n := 4) rfl (by omega))
           have HC4 : Hid (C4 (fun _ => 0) w2.heap.size 0 (w2.heap.size + 1) (.slice none 0 0) w4) := Lib.hid (by
             obtain ⟨g, c, e, _, hg⟩ := hlt4
             injection e with e1 e2 e3
             injection e1 with e4
             injection e4 with e5
             subst e5
             exact C4.of_row hrow4 hg (by omega) (by intro e; cases e))
           clear hlt4 hrow4 hown1 hB4 hgrow1)
        | (go_at_call 11; refine (voTable_any R g0 o0 cc0 w4 HSM.out HR16.out HOKR.out (HC2.out _ HB4.out)).mono ?_; rintro e w5 ⟨F, rfl, hT5, hb5, hF5⟩
           have HF := Lib.hid hF5
           have HST : Hid (OrAt R F T w w4.heap.size (fun _ => 0) k0 (tot R) w2.heap.size 4 ⟨#[]⟩ w5) := Lib.hid ⟨Ok.zero, HLT.out, by show 0 + 0 + 0 + 0 + _ = _; omega, by have : (⟨#[]⟩ : ByteArray).size = 0 := rfl; have := HR16.out; omega, HTG.out, ⟨by omega, by unfold maxLen; omega⟩, HC4.out.next (St9.below hb5), hT5, HB4.out.trans (hb5.mono HB4.out.size)⟩
           clear hT5 hb5 hF5))
      clear HV HVC HIN HC4 HB4 HTG
      obtain ⟨gt, hgt⟩ : ∃ gt, w4.heap.size = gt := ⟨_, rfl⟩
      rw [hgt] at HST ⊢
      clear hgt
      obtain ⟨g2, hg2⟩ : ∃ g2, w2.heap.size = g2 := ⟨_, rfl⟩
      rw [hg2] at HST ⊢
      clear hg2 hb1 hb2
      go_loopw [1, 6, 8] (fun rk cv ov wr => ∃ (p : Nat → Nat) (q n g c : Nat) (s : ByteArray), rk = .int .i64 (q : Int) ∧ cv = .slice (some ⟨g, 0, none⟩) 4 c ∧ ov = .string s ∧ q ≤ 4294967296 ∧ OrAt R F T w gt p q n g c s wr) (fun _ _ ov _ => 16 - strN ov)
      case atStart => exact ⟨fun _ => 0, k0, tot R, g2, 4, ⟨#[]⟩, by go_num, rfl, rfl, HKB.out, HST.out⟩
      case round =>
        obtain ⟨p, q, n, g, c, s, rfl, rfl, rfl, hq, hat⟩ := hrel
        have HAT := Lib.hid hat
        clear HST HLT HKB
        have hcc1 := hat.cc.1
        have hcc3 := hat.cc.2
        by_cases hs : same R p
        · have HSA : Hid (Calls Try.prog 12 #[.slice (some ⟨g, 0, none⟩) 4 c, .slice (some ⟨g0, o0, none⟩) 4 cc0] wr fun e w' => e = .returned (.bool true) ∧ Below wr.heap.size wr w') := Lib.hid (by have := voSame_any p R g 0 c g0 o0 cc0 _ _ _ _ wr hat.c4 (HC2.out _ hat.bl); rwa [show decide (same R p) = true from decide_eq_true hs] at this)
          have HE : Hid (s = T) := Lib.hid (by
            have hn : n = 0 := by have := hat.ok.same_iff.1 hs; have := hat.tt; omega
            subst hn
            rw [← hat.tg]
            show s = s ++ strOf []
            apply ByteArray.ext
            apply Array.ext'
            simp [strOf, ByteArray.data_append])
          clear hs hat
          go_wp2_with (go_at_call 12; refine HSA.out.mono ?_; rintro e w6 ⟨rfl, hb6⟩)
          go_ret2
          exact ⟨by have e := HE.out; subst e; rfl, HAT.out.bl.trans (hb6.mono HAT.out.bl.size)⟩
        · have HSA : Hid (Calls Try.prog 12 #[.slice (some ⟨g, 0, none⟩) 4 c, .slice (some ⟨g0, o0, none⟩) 4 cc0] wr fun e w' => e = .returned (.bool false) ∧ Below wr.heap.size wr w') := Lib.hid (by have := voSame_any p R g 0 c g0 o0 cc0 _ _ _ _ wr hat.c4 (HC2.out _ hat.bl); rwa [show decide (same R p) = false from decide_eq_false hs] at this)
          obtain ⟨n1, hn1⟩ : ∃ n1, n = n1 + 1 := ⟨n - 1, by have : ¬ tot p = tot R := fun e => hs (hat.ok.same_iff.2 e); have := hat.tt; omega⟩
          subst hn1
          have HQ4 : Hid (q < byS R p 4) := Lib.hid (by have := W_eq hat.ok hs; have := hat.lt; omega)
          have hss : s.size + 1 ≤ 16 := by have := hat.sz; omega
          have HFV : Hid (∀ i, i < 4 → ¬ no R p i → F (cod (up p i)) = ((W R (up p i) : Nat) : Int) ∧ W R (up p i) ≤ 4294967296 ∧ sm (up p i)) := Lib.hid fun i hi hno => ⟨HF.out _ (hat.ok.up hi hno), W_bd HR16.out, (hat.ok.up hi hno).sm9 HSM.out⟩
          have HC1 := Lib.hid hat.c4
          have HPS := Lib.hid (hat.ok.sm9 HSM.out)
          have HOK := Lib.hid hat.ok
          have HR2 := Lib.hid (HC2.out _ hat.bl)
          clear hs hat
          go_wp2_with (go_at_call 12; refine HSA.out.mono ?_; rintro e w6 ⟨rfl, hb6⟩)
          have HB6 := Lib.hid hb6
          clear hb6 HSA
          go_loopw [1, 6, 8, 32] (fun rk cv ov iv wq => ∃ k : Nat, k ≤ 4 ∧ iv = .int .i64 (k : Int) ∧ byS R p k ≤ q ∧ rk = .int .i64 ((q : Int) - ((byS R p k : Nat) : Int)) ∧ cv = .slice (some ⟨g, 0, none⟩) 4 c ∧ ov = .string s ∧ Below wr.heap.size wr wq) (fun _ _ _ iv _ => 4 - (intOf iv).toNat)
          case atStart => exact ⟨0, Nat.zero_le _, rfl, Nat.zero_le _, by go_num, rfl, rfl, HB6.out⟩
          case round =>
            obtain ⟨k, hk, rfl, hle0, rfl, rfl, rfl, hbq⟩ := hrel
            have HBQ := Lib.hid hbq
            have HCQ := Lib.hid (HC1.out.next (St9.below hbq))
            have HRS := Lib.hid (HR2.out.next (St9.below hbq))
            have HTQ := Lib.hid (HAT.out.tb.below hbq)
            clear hbq
            by_cases hlt : k < 4
            · have a0 := HCQ.out.cell hlt
              have b0 := HRS.out.cell hlt
              rw [Nat.zero_add] at a0
              by_cases hk0 : k = 0
              · subst hk0
                rw [Nat.add_zero] at b0
                have HLE0 := Lib.hid hle0
                by_cases hA : p 0 = R 0
                · have HBY : Hid (byS R p (0 + 1) = byS R p 0) := Lib.hid (by show byS R p 0 + byW R p 0 = _; rw [byW_no (.inl hA), Nat.add_zero])
                  have q1 : (((p 0 : Nat) : Int) == ((R 0 : Nat) : Int)) = true := by simp [hA]
                  have q1n : (p 0 == R 0) = true := by simp [hA]
                  clear hA
                  go_wp2_with fail
                  go_quiet (fail)
                  go_wp2
                  go_roundw
                  case rel => exact ⟨0 + 1, by omega, by go_num, by rw [HBY.out]; exact HLE0.out, by rw [HBY.out], rfl, rfl, by first | exact HBQ.out | exact below_drewN HBQ.out _⟩
                  first | (simp [intOf]; done) | (simp [intOf]; omega)
                · have q1 : (((p 0 : Nat) : Int) == ((R 0 : Nat) : Int)) = false := by simp; omega
                  have q1n : (p 0 == R 0) = false := by simp; omega
                  have hno : ¬ no R p 0 := fun hx => hx.elim hA (fun hy => absurd hy.1 (by omega))
                  have HPK := HPS.out 0 (by omega)
                  have HBY : Hid (byS R p (0 + 1) = byS R p 0 + W R (up p 0)) := Lib.hid (by show byS R p 0 + byW R p 0 = _; rw [byW_go hno])
                  obtain ⟨hfv, hwb, hus⟩ := HFV.out 0 (by omega) hno
                  have HFW := Lib.hid hfv
                  have HUP : Hid ((pL p).set 0 (((p 0 : Nat) : Int) + 1) = pL (up p 0)) := Lib.hid (pL_up p (by omega))
                  have HUS := Lib.hid hus
                  have HUL : Hid (cod (up p 0) < 83521) := Lib.hid (cod_lt hus)
                  have HPA : Hid ((pL p).getD 0 0 = ((p 0 : Nat) : Int)) := Lib.hid (pL_at p (by omega))
                  have HPL : Hid (0 < (pL p).length) := Lib.hid (by simp [pL]; try omega)
                  have HNO := Lib.hid hno
                  have HL4 : Hid (0 < 4) := Lib.hid (by omega)
                  have hby := HBY.out
                  by_cases hge : W R (up p 0) ≤ q - byS R p 0
                  · have q5 : ((q : Int) - ((byS R p 0 : Nat) : Int)) ≥ ((W R (up p 0) : Nat) : Int) := by omega
                    have HN1 : Hid (byS R p (0 + 1) ≤ q) := Lib.hid (by omega)
                    have HN2 : Hid ((q : Int) - ((byS R p 0 : Nat) : Int) - ((W R (up p 0) : Nat) : Int) = (q : Int) - ((byS R p (0 + 1) : Nat) : Int)) := Lib.hid (by omega)
                    clear hno hus hfv hby hA
                    go_wp2_with fail
                    go_quiet (fail)
                    go_wp2_with (first
                      | (go_at_call 13; refine ((HCQ.out.drewN _).own _).mono ?_; rintro e w7 ⟨v7, rfl, hr7, hb7⟩
                         have hrm := (RInts.of_row hr7).room
                         obtain ⟨g5, c5, rfl, hg5, hg6⟩ := hr7.form' (n := 4) rfl (by omega)
                         have HRM := Lib.hid (hrm _ _ _ rfl)
                         have hc : w7.cell? ⟨g5, 0, none⟩ = some (.int .i64 ((p 0 : Nat) : Int)) := (hr7.cell HPL.out).trans (by rw [HPA.out])
                         have hf := hr7.free 0
                         have hst := (hr7.set 0 (((p 0 : Nat) : Int) + 1)).1
                         rw [HUP.out] at hst
                         have HC5 : Hid (C4 (up p 0) g5 0 (g5 + 1) (.slice none 0 0) (w7.setCell ⟨g5, 0, none⟩ (.int .i64 (((p 0 : Nat) : Int) + 1)))) := Lib.hid (C4.of_row hst (by simp [World.setCell]; exact hg6) (by omega) (by intro e; cases e))
                         have HB7 := Lib.hid (hb7.setCell (p := ⟨g5, 0, none⟩) hg5 (.int .i64 (((p 0 : Nat) : Int) + 1)))
                         clear hst hr7 hb7 hrm)
                      | (go_at_call 14; refine (voCode_any (up p 0) _ _ _ _ _ _ HUS.out HC5.out).mono ?_; rintro e w8 ⟨rfl, hb8⟩
                         have HB8 := Lib.hid (HB7.out.trans (hb8.mono HB7.out.size))
                         have HC8 := Lib.hid (HC5.out.next (St9.below hb8))
                         have hc9 := ((HTQ.out.drewN _).below HB8.out).cell (j := cod (up p 0)) (by rw [fr_length]; exact HUL.out)
                         rw [fr_get _ _ _ HUL.out, HFW.out] at hc9
                         have hul := HUL.out
                         clear hb8))
                    go_roundw
                    case rel => exact ⟨0 + 1, by omega, by go_num, HN1.out, by first | (rw [← HN2.out]; go_num; done) | rw [← HN2.out], rfl, rfl, (below_drewN HBQ.out _).trans (HB8.out.mono HBQ.out.size)⟩
                    first | (simp [intOf]; done) | (simp [intOf]; omega)
                  · have q5 : decide (((q : Int) - ((byS R p 0 : Nat) : Int)) ≥ ((W R (up p 0) : Nat) : Int)) = false := decide_eq_false (by omega)
                    have q6 : decide (((W R (up p 0) : Nat) : Int) ≤ ((q : Int) - ((byS R p 0 : Nat) : Int))) = false := decide_eq_false (by omega)
                    have HN1 : Hid (q < byS R p (0 + 1)) := Lib.hid (by omega)
                    have HN2 : Hid ((q : Int) - ((byS R p 0 : Nat) : Int) = ((q - byS R p 0 : Nat) : Int)) := Lib.hid (by omega)
                    clear hno hus hfv hby hA
                    go_wp2_with fail
                    go_quiet (fail)
                    go_wp2_with (first
                      | (go_at_call 13; refine ((HCQ.out.drewN _).own _).mono ?_; rintro e w7 ⟨v7, rfl, hr7, hb7⟩
                         have hrm := (RInts.of_row hr7).room
                         obtain ⟨g5, c5, rfl, hg5, hg6⟩ := hr7.form' (n := 4) rfl (by omega)
                         have HRM := Lib.hid (hrm _ _ _ rfl)
                         have hc : w7.cell? ⟨g5, 0, none⟩ = some (.int .i64 ((p 0 : Nat) : Int)) := (hr7.cell HPL.out).trans (by rw [HPA.out])
                         have hf := hr7.free 0
                         have hst := (hr7.set 0 (((p 0 : Nat) : Int) + 1)).1
                         rw [HUP.out] at hst
                         have HC5 : Hid (C4 (up p 0) g5 0 (g5 + 1) (.slice none 0 0) (w7.setCell ⟨g5, 0, none⟩ (.int .i64 (((p 0 : Nat) : Int) + 1)))) := Lib.hid (C4.of_row hst (by simp [World.setCell]; exact hg6) (by omega) (by intro e; cases e))
                         have HB7 := Lib.hid (hb7.setCell (p := ⟨g5, 0, none⟩) hg5 (.int .i64 (((p 0 : Nat) : Int) + 1)))
                         clear hst hr7 hb7 hrm)
                      | (go_at_call 14; refine (voCode_any (up p 0) _ _ _ _ _ _ HUS.out HC5.out).mono ?_; rintro e w8 ⟨rfl, hb8⟩
                         have HB8 := Lib.hid (HB7.out.trans (hb8.mono HB7.out.size))
                         have HC8 := Lib.hid (HC5.out.next (St9.below hb8))
                         have hc9 := ((HTQ.out.drewN _).below HB8.out).cell (j := cod (up p 0)) (by rw [fr_length]; exact HUL.out)
                         rw [fr_get _ _ _ HUL.out, HFW.out] at hc9
                         have hul := HUL.out
                         clear hb8))
                    go_roundw
                    case rel => exact ⟨up p 0, q - byS R p 0, n1, g5, c5, s ++ abcd1 0, by rw [HN2.out], rfl, by first | rfl | (unfold abcd1; go_num), by omega, HAT.out.next 0 g5 c5 HL4.out HNO.out HLE0.out HN1.out HRM.out HC8.out ((below_drewN HBQ.out _).trans (HB8.out.mono HBQ.out.size))⟩
                    case measure =>
                      have e9 : ((⟨#[97, 98, 99, 100]⟩ : ByteArray).extract (0) (1)).size = 1 := abcd1_size HL4.out
                      simp only [strN, ByteArray.size_append, e9]
                      omega
              · obtain ⟨j, hj⟩ : ∃ j, k = j + 1 := ⟨k - 1, by omega⟩
                have hj1 : k - 1 = j := by omega
                have HLE0 := Lib.hid hle0
                by_cases hA : p k = R k
                · have HBY : Hid (byS R p (k + 1) = byS R p k) := Lib.hid (by show byS R p k + byW R p k = _; rw [byW_no (.inl hA), Nat.add_zero])
                  have q1 : (((p k : Nat) : Int) == ((R k : Nat) : Int)) = true := by simp [hA]
                  have q1n : (p k == R k) = true := by simp [hA]
                  clear hA hj hj1
                  go_wp2_with fail
                  go_quiet (fail)
                  go_wp2
                  go_roundw
                  case rel => exact ⟨k + 1, by omega, by go_num, by rw [HBY.out]; exact HLE0.out, by rw [HBY.out], rfl, rfl, by first | exact HBQ.out | exact below_drewN HBQ.out _⟩
                  first | (simp [intOf]; done) | (simp [intOf]; omega)
                · have q1 : (((p k : Nat) : Int) == ((R k : Nat) : Int)) = false := by simp; omega
                  have q1n : (p k == R k) = false := by simp; omega
                  have a1 := HCQ.out.cell (show j < 4 by omega)
                  rw [Nat.zero_add] at a1
                  have i0 : 0 < k := by omega
                  have i0b : (0 : Int) < (k : Int) := by omega
                  have i2 : (j : Int) < 4 := by omega
                  have i1 : IntKind.i64.wrap (((k : Nat) : Int) - 1) = (j : Int) := by rw [IntWalk.i64_in _ (by omega)]; omega
                  by_cases hB : p j = p k
                  · have HBY : Hid (byS R p (k + 1) = byS R p k) := Lib.hid (by show byS R p k + byW R p k = _; rw [byW_no (.inr ⟨by omega, by rw [hj1]; exact hB.symm⟩), Nat.add_zero])
                    have q2 : (((p j : Nat) : Int) == ((p k : Nat) : Int)) = true := by simp [hB]
                    have q2n : (p j == p k) = true := by simp [hB]
                    clear hA hB hj hj1
                    go_wp2_with fail
                    go_quiet (fail)
                    clear i1
                    go_wp2
                    go_roundw
                    case rel => exact ⟨k + 1, by omega, by go_num, by rw [HBY.out]; exact HLE0.out, by rw [HBY.out], rfl, rfl, by first | exact HBQ.out | exact below_drewN HBQ.out _⟩
                    first | (simp [intOf]; done) | (simp [intOf]; omega)
                  · have hno : ¬ no R p k := fun hx => hx.elim hA (fun hy => hB (by rw [← hj1]; exact hy.2.symm))
                    have q2 : (((p j : Nat) : Int) == ((p k : Nat) : Int)) = false := by simp; omega
                    have q2n : (p j == p k) = false := by simp; omega
                    have HPK := HPS.out k (by omega)
                    have HBY : Hid (byS R p (k + 1) = byS R p k + W R (up p k)) := Lib.hid (by show byS R p k + byW R p k = _; rw [byW_go hno])
                    obtain ⟨hfv, hwb, hus⟩ := HFV.out k (by omega) hno
                    have HFW := Lib.hid hfv
                    have HUP : Hid ((pL p).set k (((p k : Nat) : Int) + 1) = pL (up p k)) := Lib.hid (pL_up p (by omega))
                    have HUS := Lib.hid hus
                    have HUL : Hid (cod (up p k) < 83521) := Lib.hid (cod_lt hus)
                    have HPA : Hid ((pL p).getD k 0 = ((p k : Nat) : Int)) := Lib.hid (pL_at p (by omega))
                    have HPL : Hid (k < (pL p).length) := Lib.hid (by simp [pL]; try omega)
                    have HNO := Lib.hid hno
                    have HL4 : Hid (k < 4) := Lib.hid (by omega)
                    have hby := HBY.out
                    by_cases hge : W R (up p k) ≤ q - byS R p k
                    · have q5 : ((q : Int) - ((byS R p k : Nat) : Int)) ≥ ((W R (up p k) : Nat) : Int) := by omega
                      have HN1 : Hid (byS R p (k + 1) ≤ q) := Lib.hid (by omega)
                      have HN2 : Hid ((q : Int) - ((byS R p k : Nat) : Int) - ((W R (up p k) : Nat) : Int) = (q : Int) - ((byS R p (k + 1) : Nat) : Int)) := Lib.hid (by omega)
                      clear hno hus hfv hby hA hB hj hj1
                      go_wp2_with fail
                      go_quiet (fail)
                      clear i1
                      go_wp2_with (first
                        | (go_at_call 13; refine ((HCQ.out.drewN _).own _).mono ?_; rintro e w7 ⟨v7, rfl, hr7, hb7⟩
                           have hrm := (RInts.of_row hr7).room
                           obtain ⟨g5, c5, rfl, hg5, hg6⟩ := hr7.form' (n := 4) rfl (by omega)
                           have HRM := Lib.hid (hrm _ _ _ rfl)
                           have hc : w7.cell? ⟨g5, k, none⟩ = some (.int .i64 ((p k : Nat) : Int)) := (hr7.cell HPL.out).trans (by rw [HPA.out])
                           have hf := hr7.free k
                           have hst := (hr7.set k (((p k : Nat) : Int) + 1)).1
                           rw [HUP.out] at hst
                           have HC5 : Hid (C4 (up p k) g5 0 (g5 + 1) (.slice none 0 0) (w7.setCell ⟨g5, k, none⟩ (.int .i64 (((p k : Nat) : Int) + 1)))) := Lib.hid (C4.of_row hst (by simp [World.setCell]; exact hg6) (by omega) (by intro e; cases e))
                           have HB7 := Lib.hid (hb7.setCell (p := ⟨g5, k, none⟩) hg5 (.int .i64 (((p k : Nat) : Int) + 1)))
                           clear hst hr7 hb7 hrm)
                        | (go_at_call 14; refine (voCode_any (up p k) _ _ _ _ _ _ HUS.out HC5.out).mono ?_; rintro e w8 ⟨rfl, hb8⟩
                           have HB8 := Lib.hid (HB7.out.trans (hb8.mono HB7.out.size))
                           have HC8 := Lib.hid (HC5.out.next (St9.below hb8))
                           have hc9 := ((HTQ.out.drewN _).below HB8.out).cell (j := cod (up p k)) (by rw [fr_length]; exact HUL.out)
                           rw [fr_get _ _ _ HUL.out, HFW.out] at hc9
                           have hul := HUL.out
                           clear hb8))
                      go_roundw
                      case rel => exact ⟨k + 1, by omega, by go_num, HN1.out, by first | (rw [← HN2.out]; go_num; done) | rw [← HN2.out], rfl, rfl, (below_drewN HBQ.out _).trans (HB8.out.mono HBQ.out.size)⟩
                      first | (simp [intOf]; done) | (simp [intOf]; omega)
                    · have q5 : decide (((q : Int) - ((byS R p k : Nat) : Int)) ≥ ((W R (up p k) : Nat) : Int)) = false := decide_eq_false (by omega)
                      have q6 : decide (((W R (up p k) : Nat) : Int) ≤ ((q : Int) - ((byS R p k : Nat) : Int))) = false := decide_eq_false (by omega)
                      have HN1 : Hid (q < byS R p (k + 1)) := Lib.hid (by omega)
                      have HN2 : Hid ((q : Int) - ((byS R p k : Nat) : Int) = ((q - byS R p k : Nat) : Int)) := Lib.hid (by omega)
                      clear hno hus hfv hby hA hB hj hj1
                      go_wp2_with fail
                      go_quiet (fail)
                      clear i1
                      go_wp2_with (first
                        | (go_at_call 13; refine ((HCQ.out.drewN _).own _).mono ?_; rintro e w7 ⟨v7, rfl, hr7, hb7⟩
                           have hrm := (RInts.of_row hr7).room
                           obtain ⟨g5, c5, rfl, hg5, hg6⟩ := hr7.form' (n := 4) rfl (by omega)
                           have HRM := Lib.hid (hrm _ _ _ rfl)
                           have hc : w7.cell? ⟨g5, k, none⟩ = some (.int .i64 ((p k : Nat) : Int)) := (hr7.cell HPL.out).trans (by rw [HPA.out])
                           have hf := hr7.free k
                           have hst := (hr7.set k (((p k : Nat) : Int) + 1)).1
                           rw [HUP.out] at hst
                           have HC5 : Hid (C4 (up p k) g5 0 (g5 + 1) (.slice none 0 0) (w7.setCell ⟨g5, k, none⟩ (.int .i64 (((p k : Nat) : Int) + 1)))) := Lib.hid (C4.of_row hst (by simp [World.setCell]; exact hg6) (by omega) (by intro e; cases e))
                           have HB7 := Lib.hid (hb7.setCell (p := ⟨g5, k, none⟩) hg5 (.int .i64 (((p k : Nat) : Int) + 1)))
                           clear hst hr7 hb7 hrm)
                        | (go_at_call 14; refine (voCode_any (up p k) _ _ _ _ _ _ HUS.out HC5.out).mono ?_; rintro e w8 ⟨rfl, hb8⟩
                           have HB8 := Lib.hid (HB7.out.trans (hb8.mono HB7.out.size))
                           have HC8 := Lib.hid (HC5.out.next (St9.below hb8))
                           have hc9 := ((HTQ.out.drewN _).below HB8.out).cell (j := cod (up p k)) (by rw [fr_length]; exact HUL.out)
                           rw [fr_get _ _ _ HUL.out, HFW.out] at hc9
                           have hul := HUL.out
                           clear hb8))
                      go_roundw
                      case rel => exact ⟨up p k, q - byS R p k, n1, g5, c5, s ++ abcd1 k, by rw [HN2.out], rfl, by first | rfl | (unfold abcd1; go_num), by omega, HAT.out.next k g5 c5 HL4.out HNO.out HLE0.out HN1.out HRM.out HC8.out ((below_drewN HBQ.out _).trans (HB8.out.mono HBQ.out.size))⟩
                      case measure =>
                        have e9 : ((⟨#[97, 98, 99, 100]⟩ : ByteArray).extract (k) (k + 1)).size = 1 := abcd1_size HL4.out
                        simp only [strN, ByteArray.size_append, e9]
                        omega
            · exfalso
              obtain rfl : k = 4 := by omega
              have := HQ4.out
              omega
  · have hob : orB xs k9 = false := by unfold orB; rw [hr]; rfl
    have hov : orV xs k9 = ⟨#[]⟩ := by unfold orV; rw [hob]; rfl
    rw [hr] at HV
    rw [hob, hov]
    obtain ⟨A, cc, rfl⟩ := h.shape
    clear h hr hob hov hk
    go_enter Try.func4, Try.ntmps4
    go_wp2_with (first | (go_at_call 8; refine HV.out.mono ?_; rintro e w1 ⟨rfl, hb1⟩))
    go_ret2
    exact ⟨rfl, hb1⟩
end Go.Proofs.Ytmfcknlpbliehaa
