/- Pack 24 of what FnExactOrderedOfRank needs: HkS9, HkS10. -/
import Derived.Test.YtmfcknlpbliehaaKFnExactOrderedOfRank23
/- HooksOf: the model. -/
namespace Go.Proofs.Ytmfcknlpbliehaa
open Go.RowKit
set_option linter.unusedVariables false
set_option maxRecDepth 100000 in
set_option maxHeartbeats 4000000 in
theorem voHooks_any (g0 o0 cc0 : Nat) (xs : List Int) (w : World) (hK : resB xs = true) (hg0 : g0 < w.heap.size) (hcc : 4 ≤ cc0 ∧ cc0 ≤ maxLen) (hcells0 : ∀ j, j < 4 → w.cell? ⟨g0, o0 + j, none⟩ = some (.int .i64 (xs.getD j 0))) :
    Calls Try.prog 19 #[.slice (some ⟨g0, o0, none⟩) 4 cc0] w (TabsNew w (hksTo xs 4)) := by
  unfold maxLen at hcc
  obtain ⟨h4, hmm⟩ := res_at hK
  have HM := Lib.hid hmm
  have HC := Lib.hid hcells0
  have HHK : Hid (∀ k, hksTo xs k ++ [hkRow xs k (xs.getD k 0).toNat] = hksTo xs (k + 1)) := Lib.hid fun k => rfl
  have HHL := Lib.hid (hksTo_len xs)
  have H4 := Lib.hid h4
  clear hmm hcells0 hK h4
  go_enter Try.func19, Try.ntmps19
  go_wp2
  go_loopw [3, 13] (fun v i wr => ∃ k : Nat, k ≤ 4 ∧ i = .int .i64 (k : Int) ∧ (∃ vs, TRow wr w.heap.size wr.heap.size v vs (hksTo xs k)) ∧ Below w.heap.size w wr) (fun _ i _ => 4 - (intOf i).toNat)
  case atStart => exact ⟨0, by omega, rfl, ⟨_, TRow.nil (Nat.le_refl _)⟩, Below.refl _ _⟩
  case round =>
    obtain ⟨k, hk, rfl, ⟨vs, hrow⟩, hb⟩ := hrel
    by_cases hlt : k < 4
    · obtain ⟨m, hm, hm16⟩ := HM.out k hlt
      have e1 := (hb.cell (p := ⟨g0, o0 + k, none⟩) hg0).trans (HC.out k hlt)
      rw [hm] at e1
      have HMM := Lib.hid hm
      have HB := Lib.hid hb
      obtain ⟨A, c0, hsh⟩ := hrow.out.shape
      have hvl : vs.length = k := by rw [hrow.len, HHL.out]
      rw [hvl] at hsh
      subst hsh
      have HVL := Lib.hid hvl
      have HROW := Lib.hid hrow
      obtain ⟨w0, hw0⟩ : ∃ w0, w0 = wr := ⟨_, rfl⟩
      have q1 : decide ((k : Int) < 4) = true := decide_eq_true (by omega)
      have hbs := hb.size
      clear hrow hb hm HM hvl
      go_wp2
      subst hw0
      go_loopw [6, 7] (fun u i wr => ∃ j : Nat, j ≤ m ∧ i = .int .i64 (j : Int) ∧ IRow wr w0.heap.size u (hkRow xs k j) ∧ Below w0.heap.size w0 wr) (fun _ i _ => m - (intOf i).toNat)
      case atStart => exact ⟨0, Nat.zero_le _, rfl, IRow.nil _ _, Below.refl _ _⟩
      case round =>
        obtain ⟨j, hj, rfl, hrow, hb⟩ := hrel
        by_cases hlt2 : j < m
        · have hsz := hb.size
          have HCW : Hid (∀ q, q < 4 → wr.cell? ⟨g0, o0 + q, none⟩ = some (.int .i64 (xs.getD q 0))) := Lib.hid fun q hq => (hb.cell (p := ⟨g0, o0 + q, none⟩) (by show g0 < w0.heap.size; omega)).trans ((HB.out.cell (p := ⟨g0, o0 + q, none⟩) hg0).trans (HC.out q hq))
          have HY := Lib.hid (fun q => hk_yes (xs := xs) (i := k) (k := q) (j := (j : Int)))
          have HN := Lib.hid (fun q => hk_no (xs := xs) (i := k) (k := q) (j := (j : Int)))
          have HE := Lib.hid (fun q => hk_end xs k (j : Int) (k := q))
          have HS0 := Lib.hid (hk_start xs k (j : Int))
          have HLE : Hid (∀ q, laN (j : Int) ((xs.drop (k + 1)).take q) ≤ 4) := Lib.hid fun q => by
            have := laN_le (j : Int) ((xs.drop (k + 1)).take q)
            have h4 := H4.out
            rw [List.length_take, List.length_drop] at this
            omega
          rw [HMM.out] at HE
          rw [H4.out] at HY HN HE
          have hll := hkRow_len xs k j
          obtain ⟨A1, c1, hsh1⟩ := hrow.shape
          rw [hll] at hsh1
          subst hsh1
          have HLL := Lib.hid hll
          have HRN : Hid (∀ r, r = hkRow xs k j ++ [hkN xs k (j : Int)] → r = hkRow xs k (j + 1)) := Lib.hid fun r hr => hr
          have HR := Lib.hid hrow
          have HBW := Lib.hid hb
          clear hrow hb hll e1
          generalize hkN xs k (j : Int) = H at *
          generalize hF : (fun q => laN (j : Int) ((xs.drop (k + 1)).take q)) = F at *
          have hFk : ∀ q, laN (j : Int) ((xs.drop (k + 1)).take q) = F q := fun q => by rw [← hF]
          simp only [hFk] at HY HN HE HS0 HLE
          clear hF hFk
          have q2 : decide ((j : Int) < (m : Int)) = true := decide_eq_true (by omega)
          generalize hkRow xs k j = R at *
          by_cases hk3 : k < 3
          · have hne : ¬ cc0 = k + 1 := by omega
            go_wp2
            go_loop [8, 31] (fun s q => ∃ r : Nat, k + 1 + r ≤ 4 ∧ q = .int .i64 (r : Int) ∧ s = .int .i64 ((m : Int) - (j : Int) + (F r : Nat))) (fun _ q => 4 - (intOf q).toNat)
            case atStart => exact ⟨0, by omega, rfl, by rw [HS0.out]; go_num⟩
            case round =>
              obtain ⟨r, hr, rfl, rfl⟩ := hrel
              by_cases hlt3 : k + 1 + r < 4
              · have e2 := HCW.out (k + 1 + r) (by omega)
                rw [← Nat.add_assoc] at e2
                have HY1 := Lib.hid (HY.out r hlt3)
                have HN1 := Lib.hid (HN.out r hlt3)
                have hle := HLE.out r
                clear HY HN HE HS0 HLE HCW HR HBW
                generalize xs.getD (k + 1 + r) 0 = x at *
                generalize hF1 : F (r + 1) = F1 at *
                have HF1 := Lib.hid hF1
                clear hF1
                generalize F r = F0 at *
                have i1 : (r : Int) < 4 - ((k : Int) + 1) := by omega
                by_cases hx : (j : Int) < x
                · have HQ := Lib.hid (HY1.out hx)
                  go_wp2
                  refine ⟨⟨r + 1, by omega, by go_num, ?_⟩, ?_⟩
                  · rw [HF1.out, HQ.out] <;> go_num
                  · first | (simp [intOf]; done) | (simp [intOf]; omega)
                · have HQ := Lib.hid (HN1.out (by omega))
                  go_wp2
                  refine ⟨⟨r + 1, by omega, by go_num, ?_⟩, ?_⟩
                  · rw [HF1.out, HQ.out] <;> go_num
                  · first | (simp [intOf]; done) | (simp [intOf]; omega)
              · have HE1 := Lib.hid (HE.out r (by omega))
                have i1 : ¬ (r : Int) < 4 - ((k : Int) + 1) := by omega
                rw [← HE1.out]
                go_wp2_with (at_builtin; refine wpList_push (.tmp 41) (.tmp 43) rfl rfl w0.heap.size _ R rfl HR.out rfl (by rw [HLL.out]; omega) hsz ?_; intro v' w' hrow' hg' hat')
                refine ⟨⟨j + 1, by omega, by go_num, by rw [← HRN.out _ rfl]; exact hrow', HBW.out.grown hg' hsz (fun q hq => (HR.out.blk q hq).1)⟩, ?_⟩
                first | (simp [intOf]; done) | (simp [intOf]; omega)
          · have i1 : ¬ (0 : Int) < 4 - ((k : Int) + 1) := by omega
            have HE1 := Lib.hid (HE.out 0 (by omega))
            rw [HS0.out] at HE1
            have HE2 : Hid ((m : Int) - (j : Int) = H) := Lib.hid (by rw [HE1.out]; simp)
            clear HY HN HE HS0 HLE HE1
            by_cases hc4 : cc0 = k + 1
            · subst hc4
              go_wp2
              refine wp_loop_rounds 1 ?_
              rw [rounds_succ]
              rw [HE2.out]
              go_wp2_with (at_builtin; refine wpList_push (.tmp 41) (.tmp 43) rfl rfl w0.heap.size _ R rfl HR.out rfl (by rw [HLL.out]; omega) hsz ?_; intro v' w' hrow' hg' hat')
              refine ⟨⟨j + 1, by omega, by go_num, by rw [← HRN.out _ rfl]; exact hrow', HBW.out.grown hg' hsz (fun q hq => (HR.out.blk q hq).1)⟩, ?_⟩
              first | (simp [intOf]; done) | (simp [intOf]; omega)
            · go_wp2
              refine wp_loop_rounds 1 ?_
              rw [rounds_succ]
              rw [HE2.out]
              go_wp2_with (at_builtin; refine wpList_push (.tmp 41) (.tmp 43) rfl rfl w0.heap.size _ R rfl HR.out rfl (by rw [HLL.out]; omega) hsz ?_; intro v' w' hrow' hg' hat')
              refine ⟨⟨j + 1, by omega, by go_num, by rw [← HRN.out _ rfl]; exact hrow', HBW.out.grown hg' hsz (fun q hq => (HR.out.blk q hq).1)⟩, ?_⟩
              first | (simp [intOf]; done) | (simp [intOf]; omega)
        · obtain rfl : j = m := by omega
          obtain ⟨A1, c1, hsh1⟩ := hrow.shape
          rw [hkRow_len] at hsh1
          subst hsh1
          have HR := Lib.hid hrow
          have hsz := hb.size
          have HH1 := Lib.hid (HHK.out k)
          rw [HMM.out, Int.toNat_natCast] at HH1
          have q2 : decide ((j : Int) < (j : Int)) = false := decide_eq_false (by omega)
          have HT := Lib.hid (HROW.out.below hb)
          have HBX := Lib.hid (HB.out.trans (hb.mono (by omega)))
          have HVB : Hid (vs.length ≤ 2000000) := Lib.hid (by rw [HVL.out]; omega)
          clear hrow e1
          go_wp2_with (at_builtin; refine wpList_pushV (.tmp 45) (.tmp 47) rfl rfl w.heap.size _ vs rfl (HT.out.out.alloc _) wr.heap.size _ rfl (by simp; rfl) rfl HVB.out (by simp; omega) ?_; intro v' w' hr' hg' hat')
          obtain ⟨A2, c2, hv9⟩ := hr'.shape
          have HP := Lib.hid ((HT.out.below ((Below.refl _ _).alloc (Nat.le_refl _) _)).push (HR.out.alloc _) (by omega) hr' hg' hat')
          rw [HH1.out] at HP
          refine ⟨⟨k + 1, by omega, by go_num, ⟨_, HP.out⟩, (HBX.out.alloc (by omega) _).grown hg' (by simp; omega) (fun q hq => (HT.out.outB q hq).1)⟩, ?_⟩
          first | (simp [intOf]; done) | (simp [intOf]; omega)
    · obtain rfl : k = 4 := by omega
      have HR := Lib.hid hrow
      clear hrow
      go_wp2
      go_ret
      exact ⟨_, _, rfl, HR.out, hb⟩
end Go.Proofs.Ytmfcknlpbliehaa

/- HooksOf: the model's public function; facts on the hooks of a result. -/
namespace Go.Proofs.Ytmfcknlpbliehaa
open Go.RowKit
set_option linter.unusedVariables false
theorem res_q4 {xs : List Int} (h : resB xs = true) : ∃ a b c d : Nat, xs = q4 a b c d ∧ b ≤ a ∧ c ≤ b ∧ d ≤ c ∧ a + b + c + d ≤ 16 := (resB_iff xs).1 h
theorem hk_facts {xs : List Int} (h : resB xs = true) : (hkL xs).length ≤ 16 ∧ (∀ x, x ∈ hkL xs → 1 ≤ x) ∧ pd (hkL xs) ≤ 100000000000000 ∧ ((hkL xs).length : Int) = xs.sum := by
  obtain ⟨a, b, c, d, rfl, h1, h2, h3, h4⟩ := res_q4 h
  obtain ⟨p1, p2, p3, _, _⟩ := resP_of h1 h2 h3 h4
  refine ⟨by omega, p2, p3, ?_⟩
  rw [p1]
  simp [q4]
  omega
theorem hkV_len (xs : List Int) : (hkV xs).length ≤ 4 := by
  unfold hkV
  split
  · rw [hksTo_len]; exact Nat.le_refl _
  · simp
theorem hkV_flat (xs : List Int) : (hkV xs).flatten.length ≤ 16 := by
  unfold hkV
  split
  · rename_i h
    exact (hk_facts h).1
  · simp
theorem hkRow_16 {xs : List Int} (h : resB xs = true) (j : Nat) (hj : j < 4) : ((hksTo xs 4).getD j []).length ≤ 16 := by
  have h1 : ((hksTo xs 4).getD j []).length ≤ (hksTo xs 4).flatten.length := by
    rw [List.getD_eq_getElem?_getD, List.getElem?_eq_getElem (by rw [hksTo_len]; exact hj)]
    show ((hksTo xs 4)[j]'_).length ≤ _
    exact (List.sublist_flatten_of_mem (List.getElem_mem _)).length_le
  have := (hk_facts h).1
  unfold hkL at this
  omega
theorem pd_take {l : List Int} {k : Nat} (h : k < l.length) : pd (l.take (k + 1)) = pd (l.take k) * l.getD k 0 := by
  rw [List.take_succ_eq_append_getElem h, pd_snoc, List.getD_eq_getElem?_getD, List.getElem?_eq_getElem h]
  rfl
theorem pd_takeB {l : List Int} (h : ∀ x, x ∈ l → 1 ≤ x) (k : Nat) : 1 ≤ pd (l.take k) ∧ pd (l.take k) ≤ pd l := by
  have := pd_pre (l := l.take k) (r := l.drop k) (by rw [List.take_append_drop]; exact h)
  rwa [List.take_append_drop] at this
def coW (xs : List Int) : Int := if resB xs = true then coV xs else 0
end Go.Proofs.Ytmfcknlpbliehaa
