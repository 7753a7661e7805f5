/- Pack 25 of what FnExactOrderedOfRank needs: CatI, CoI. -/
import Derived.Test.YtmfcknlpbliehaaKFnExactOrderedOfRank24
import Derived.Lib.AppendZeros
/- slices.Grow of nil, slices.Concat of rows. -/
namespace Go.Proofs.Ytmfcknlpbliehaa
open Go.RowKit
set_option linter.unusedVariables false
set_option maxHeartbeats 800000 in
theorem grow_any9 (n : Nat) (hn : n ≤ 64) (w : World) : Calls Try.prog 31 #[.slice none 0 0, .int .i64 (n : Int)] w fun e w' => ∃ v, e = .returned v ∧ IRow w' w.heap.size v [] ∧ Below w.heap.size w w' := by
  obtain ⟨i0, hi, hz0, hz1, hz2⟩ := info_parts intInfo
  by_cases h0 : n = 0
  · subst h0
    go_enter Try.func31, Try.ntmps31
    go_wp2
    go_ret
    exact ⟨_, rfl, IRow.nil _ _, Below.refl _ _⟩
  · have hr := fun ty => Lib.run_append_nil_zeros (P := Try.prog) w 22 3 ty 3 i0 (.int .i64 0) .i64 .i64 Try.underlying22 Try.underlying3 hi hz0 n (by omega) (by omega) (by omega) (by rw [hz2]; omega)
    have hge := grownCap_ge w n 0 3
    have hle := grownCap_le_maxLen w n 0 3 (by unfold maxLen; omega)
    have hpos : (n : Int) > 0 := by omega
    generalize grownCap w n 0 3 = cp at *
    go_enter Try.func31, Try.ntmps31
    go_wp2_with (at_builtin; refine Lib.wpList_append_run _ rfl (.tmp 20) (.tmp 21) 22 3 rfl _ _ rfl rfl _ _ (hr _) ?_)
    go_ret
    have hb : Below w.heap.size w (w.drew.alloc (.cells (Builtin.zeroCells (Value.int .i64 0).cells n ++ Builtin.zeroCells (Value.int .i64 0).cells (cp - n)) 3)) := (below_drewN (Below.refl _ _) 1).alloc (Nat.le_refl _) _
    refine ⟨_, rfl, ⟨rfl, .inr ⟨w.heap.size, cp, _, rfl, Nat.le_refl _, (heap_alloc_new w.drew _), Nat.zero_le _, hle, ?_, rfl⟩⟩, hb⟩
    rw [Array.size_append, size_zeroCells, size_zeroCells]
    simp [Value.cells]
    omega
theorem flat_take9 {xss : List (List Int)} {k : Nat} (h : k < xss.length) : (xss.take (k + 1)).flatten = (xss.take k).flatten ++ xss.getD k [] := by
  rw [List.take_succ_eq_append_getElem h, List.flatten_append, List.getD_eq_getElem?_getD, List.getElem?_eq_getElem h]
  simp
set_option maxRecDepth 100000 in
set_option maxHeartbeats 1600000 in
theorem concat_any {B M g c : Nat} {vs : List Value} {xss : List (List Int)} (w : World) (h : TRow w B M (.slice (some ⟨g, 0, none⟩) 4 c) vs xss) (h4 : xss.length = 4) (hf : ∀ j, j < 4 → (xss.getD j []).length ≤ 16) :
    Calls Try.prog 26 #[.slice (some ⟨g, 0, none⟩) 4 c] w fun e w' => ∃ u, e = .returned u ∧ IRow w' w.heap.size u xss.flatten ∧ Below w.heap.size w w' := by
  have HT := Lib.hid h
  have HF := Lib.hid hf
  have H4 := Lib.hid h4
  have HCL : Hid (∀ W, Below w.heap.size w W → ∀ j, j < 4 → W.cell? ⟨g, j, none⟩ = some (vs.getD j NilS)) := Lib.hid fun W hb j hj => (h.below hb).out.cell (by rw [h.len, h4]; exact hj)
  have HSH : Hid (∀ j, j < 4 → ∃ A c0, vs.getD j NilS = .slice A (xss.getD j []).length c0) := Lib.hid fun j hj => (h.row j (by rw [h4]; exact hj)).shape
  have HFL : Hid (∀ k, k < 4 → (xss.take (k + 1)).flatten = (xss.take k).flatten ++ xss.getD k []) := Lib.hid fun k hk => flat_take9 (xss := xss) (k := k) (by omega)
  have HLE : Hid (∀ k, k ≤ 4 → ((xss.take k).flatten).length ≤ 16 * k) := Lib.hid fun k => by
    induction k with
    | zero => intro _; simp
    | succ k ih =>
      intro hk
      have h1 := ih (by omega)
      have h2 := HF.out k (by omega)
      rw [HFL.out k (by omega), List.length_append]
      omega
  have HRW : Hid (∀ W, Below w.heap.size w W → ∀ j, j < 4 → RInts W (vs.getD j NilS) (xss.getD j [])) := Lib.hid fun W hb j hj => RInts.of_row ((h.below hb).row j (by rw [h4]; exact hj))
  have HEND : Hid ((xss.take 4).flatten = xss.flatten) := Lib.hid (by rw [List.take_of_length_le (by omega)])
  clear h hf h4
  go_enter Try.func26, Try.ntmps26
  go_wp2
  go_loop [3, 11] (fun s i => ∃ k : Nat, k ≤ 4 ∧ i = .int .i64 (k : Int) ∧ s = .int .i64 (((xss.take k).flatten).length : Int)) (fun _ i => 4 - (intOf i).toNat)
  case atStart => exact ⟨0, by omega, rfl, rfl⟩
  case round =>
    obtain ⟨k, hk, rfl, rfl⟩ := hrel
    by_cases hlt : k < 4
    · obtain ⟨A, c0, hsh⟩ := HSH.out k hlt
      have hc := HCL.out _ (Below.refl _ _) k hlt
      rw [hsh] at hc
      have h1 := HLE.out k hk
      have h2 := HF.out k hlt
      have HFK : Hid (((xss.take (k + 1)).flatten).length = ((xss.take k).flatten).length + (xss.getD k []).length) := Lib.hid (by rw [HFL.out k hlt, List.length_append])
      clear HCL HSH HFL HLE HRW hsh HF HT
      generalize ((xss.take k).flatten).length = L0 at *
      generalize (xss.getD k []).length = l at *
      go_wp2
      refine ⟨⟨k + 1, by omega, by go_num, by rw [HFK.out]; go_num⟩, ?_⟩
      first | (simp [intOf]; done) | (simp [intOf]; omega)
    · obtain rfl : k = 4 := by omega
      have h1 := HLE.out 4 (by omega)
      have HG : Hid (∀ (n : Nat), n ≤ 64 → ∀ w, Calls Try.prog 31 #[.slice none 0 0, .int .i64 (n : Int)] w fun e w' => ∃ v, e = .returned v ∧ IRow w' w.heap.size v [] ∧ Below w.heap.size w w') := Lib.hid fun n hn w => grow_any9 n hn w
      generalize ((xss.take 4).flatten).length = N at *
      have HG2 := Lib.hid (HG.out N (by omega))
      clear HG
      go_wp2_with (go_at_call 31; refine (HG2.out _).mono ?_; rintro e w1 ⟨v, rfl, hr, hb1⟩)
      go_loopw [6, 27] (fun u i wr => ∃ k : Nat, k ≤ 4 ∧ i = .int .i64 (k : Int) ∧ IRow wr w.heap.size u ((xss.take k).flatten) ∧ Below w.heap.size w wr) (fun _ i _ => 4 - (intOf i).toNat)
      case atStart => exact ⟨0, by omega, rfl, hr, hb1⟩
      case round =>
        obtain ⟨k, hk, rfl, hrow, hb⟩ := hrel
        by_cases hlt : k < 4
        · have hc := HCL.out _ hb k hlt
          have hrr := HRW.out _ hb k hlt
          have h1 := HLE.out k hk
          have h2 := HF.out k hlt
          have hsz := hb.size
          have HFK := Lib.hid (HFL.out k hlt)
          have HLN : Hid (((xss.take k).flatten).length + (xss.getD k []).length ≤ 1099511627776) := Lib.hid (by omega)
          have HROW := Lib.hid hrow
          have HRR := Lib.hid hrr
          clear HCL HSH HFL HLE HRW HF HT hr hb1 hrow hrr h1 h2
          generalize vs.getD k NilS = rv at *
          obtain ⟨F1, hF1⟩ : ∃ F1, F1 = (xss.take (k + 1)).flatten := ⟨_, rfl⟩
          rw [← hF1] at HFK
          have HF1 := Lib.hid hF1
          clear hF1
          generalize (xss.take k).flatten = X at *
          generalize xss.getD k [] = Y at *
          go_wp2_with (at_builtin; refine wpList_extendR (.tmp 31) (.tmp 32) rfl rfl w.heap.size _ rv X Y rfl HROW.out rfl HRR.out HLN.out hsz ?_; intro v' w' hrow' hg')
          refine ⟨⟨k + 1, by omega, by go_num, by rw [← HF1.out, HFK.out]; exact hrow', hb.grown hg' hsz (fun q hq => (HROW.out.blk q hq).1)⟩, ?_⟩
          first | (simp [intOf]; done) | (simp [intOf]; omega)
        · obtain rfl : k = 4 := by omega
          rw [HEND.out] at hrow
          have HR := Lib.hid hrow
          clear hrow
          go_wp2
          go_ret
          exact ⟨_, rfl, HR.out, hb⟩
end Go.Proofs.Ytmfcknlpbliehaa

/- CountOrdered: the program. -/
namespace Go.Proofs.Ytmfcknlpbliehaa
open Go.RowKit
set_option linter.unusedVariables false
set_option maxRecDepth 100000 in
set_option maxHeartbeats 1600000 in
theorem countOrd_ret (v : Value) (xs : List Int) (w : World) (h : RInts w v xs) (hl : xs.length ≤ 1048576) : Calls Try.prog 21 #[v] w (Ret w (.tuple #[.int .i64 (coW xs), .bool (resB xs)])) := by
  have HV := Lib.hid (hooksOf_ret v xs w h hl)
  unfold coW
  rcases Bool.eq_false_or_eq_true (resB xs) with hr | hr
  · obtain ⟨hL16, hpos, hpd, _⟩ := hk_facts hr
    have HCT : Hid (∀ (B M g c : Nat) (vs : List Value) (w : World), TRow w B M (.slice (some ⟨g, 0, none⟩) 4 c) vs (hksTo xs 4) → Calls Try.prog 26 #[.slice (some ⟨g, 0, none⟩) 4 c] w fun e w' => ∃ u, e = .returned u ∧ IRow w' w.heap.size u (hkL xs) ∧ Below w.heap.size w w') :=
      Lib.hid fun B M g c vs w h => concat_any w h (hksTo_len xs 4) (fun j hj => hkRow_16 hr j hj)
    unfold hkV at HV
    rw [hr, if_pos rfl] at HV
    rw [hr, if_pos rfl]
    have HLN : Hid ((hksTo xs 4).length = 4) := Lib.hid (hksTo_len xs 4)
    have HCV : Hid (coV xs = (fac (hkL xs).length).tdiv (pd (hkL xs))) := Lib.hid rfl
    have HFB := Lib.hid fac_bd
    have HFS : Hid (∀ k, fac (k + 1) = fac k * ((k : Int) + 1)) := Lib.hid fun k => by rw [fac]; congr 1
    have HPT := Lib.hid (fun k => pd_take (l := hkL xs) (k := k))
    have HPB := Lib.hid (fun k => pd_takeB hpos k)
    have HPE : Hid (pd ((hkL xs).take (hkL xs).length) = pd (hkL xs)) := Lib.hid (by rw [List.take_of_length_le (Nat.le_refl _)])
    obtain ⟨A0, cap, rfl⟩ := h.shape
    clear h hr hpos
    generalize hksTo xs 4 = xss at *
    generalize hkL xs = L at *
    have HP0 : Hid (pd (L.take 0) = 1) := Lib.hid rfl
    go_enter Try.func21, Try.ntmps21
    go_wp2_with (first | (go_at_call 25; refine HV.out.mono ?_; rintro e w1 ⟨v1, vs1, rfl, hr1, hb1⟩; obtain ⟨g1, c1, rfl, _, _, _⟩ := hr1.form HLN.out (by omega)) | (go_at_call 26; refine (HCT.out _ _ _ _ _ _ hr1).mono ?_; rintro e w2 ⟨u, rfl, hr2, hb2⟩; obtain ⟨A2, c2, rfl⟩ := hr2.shape; have HRL := Lib.hid (RInts.of_row hr2); clear hr2))
    go_loop [6, 7, 20] (fun f p i => ∃ k : Nat, k ≤ L.length ∧ i = .int .i64 (k : Int) ∧ f = .int .i64 (fac k) ∧ p = .int .i64 (pd (L.take k))) (fun _ _ i => L.length - (intOf i).toNat)
    case atStart => exact ⟨0, Nat.zero_le _, rfl, rfl, by rw [HP0.out]⟩
    case round =>
      obtain ⟨k, hk, rfl, rfl, rfl⟩ := hrel
      by_cases hlt : k < L.length
      · obtain ⟨g, o, cc, hv, hg, hcells⟩ := HRL.out.cells (by omega)
        have hA : A2 = some ⟨g, o, none⟩ := by injection hv
        subst hA
        clear hv
        have e1 := hcells k hlt
        clear hcells
        have f1 := HFB.out (k + 1) (by omega)
        have HFS1 := Lib.hid (HFS.out k)
        rw [HFS1.out] at f1
        have p0 := HPB.out k
        have p1 := HPB.out (k + 1)
        have HPT1 := Lib.hid (HPT.out k hlt)
        rw [HPT1.out] at p1
        clear HFB HFS HPT HPB HPE HCV HP0 HCT HV hr1
        generalize L.getD k 0 = x at *
        have p2 : pd (L.take k) * x ≤ 100000000000000 := by omega
        generalize hF1 : fac (k + 1) = F1 at *
        generalize hP1 : pd (L.take (k + 1)) = P1 at *
        have HF1 := Lib.hid hF1
        have HP1 := Lib.hid hP1
        clear hF1 hP1
        generalize fac k = F0 at *
        generalize pd (L.take k) = P0 at *
        go_wp2
        refine ⟨⟨k + 1, by omega, by go_num, by rw [HF1.out, HFS1.out], by rw [HP1.out, HPT1.out]⟩, ?_⟩
        first | (simp [intOf]; done) | (simp [intOf]; omega)
      · obtain rfl : k = L.length := by omega
        have f1 := HFB.out L.length hL16
        have p1 := HPB.out L.length
        rw [HPE.out] at p1 ⊢
        have HQ : Hid ((fac L.length).tdiv (pd L) = fac L.length / pd L) := Lib.hid (Int.tdiv_eq_ediv_of_nonneg (by omega))
        generalize pd L = P at *
        generalize fac L.length = F at *
        have m3 : (P == 0) = false := beq_eq_false_iff_ne.2 (by omega)
        have f2 := f1.2
        have f3 := f1.1
        have p2 := p1.1
        go_wp2_with fail
        go_ret2
        exact ⟨ret_ib (by rw [HCV.out, HQ.out]) rfl, hb1.trans (hb2.mono hb1.size)⟩
  · unfold hkV at HV
    rw [hr] at HV
    rw [hr]
    obtain ⟨A0, cap, rfl⟩ := h.shape
    clear h hr
    go_enter Try.func21, Try.ntmps21
    go_wp2_with (go_at_call 25; refine HV.out.mono ?_; rintro e w1 ⟨v1, vs1, rfl, hr1, hb1⟩)
    go_ret2
    exact ⟨rfl, hb1⟩
end Go.Proofs.Ytmfcknlpbliehaa
