/- leadsBy, the program's RatioRotations. -/
import Derived.Test.YtgajknnfmnnfeaaLeads
import Derived.Test.YtgajknnfmnnfeaaJoinS
import Derived.Test.YtgajknnfmnnfeaaRatMath
import Derived.Deep.RegionLaw
namespace Go.Proofs.Ytgajknnfmnnfeaa
open Go.RowKit
set_option linter.unusedVariables false
set_option maxRecDepth 100000 in
set_option maxHeartbeats 400000 in
theorem leadsBy_ret (s : ByteArray) (k : Int) (w : World) (h40 : s.size ≤ 40) (hk : 0 ≤ k ∧ k ≤ 40) :
    Calls Try.prog 94 #[.string s, .int .i64 k] w (IntsNew w (mgs s k)) := by
  obtain ⟨hk1, hk2⟩ := hk
  obtain ⟨i0, hi, hz0, hz1, hz2⟩ := info_parts intInfo
  go_enter Try.func94, Try.ntmps94
  go_wp2_with (refine wpList_make_full _ rfl (.tmp 9) (.tmp 9) 22 rfl w.heap.size 3 i0 (.int .i64 0) 1 Try.underlying22 hi hz0 hz1 .i64 .i64 _ _ (s.size + 1) rfl rfl (by omega) (by omega) (by rw [hz2]; omega) (by unfold maxLen; omega) (Nat.le_refl _) ?_; intro w1 hown1 hgrow1)
  have hrow1 : IRow w1 w.heap.size (.slice (some ⟨w.heap.size, 0, none⟩) (s.size + 1) (s.size + 1)) (fil (mg s k) (s.size + 1) 1) :=
    IRow.of_own hown1 (by simp [fil_length]) (by rw [← fil_one _ _ (mg_zero s k), fil_zero, madeOne _ rfl]; simp)
  have hb1 : Below w.heap.size w w1 := (Below.refl _ _).grown hgrow1 (Nat.le_refl _) (by simp)
  clear hown1 hgrow1
  go_loopw [6, 13] (fun q i wr => ∃ j : Nat, j ≤ s.size ∧ i = .int .i64 j ∧ IRow wr w.heap.size (.slice (some ⟨w.heap.size, 0, none⟩) (s.size + 1) (s.size + 1)) (fil (mg s k) (s.size + 1) (j + 1)) ∧ Below w.heap.size w wr) (fun _ i _ => s.size - (intOf i).toNat)
  case atStart => exact ⟨0, Nat.zero_le _, rfl, hrow1, hb1⟩
  case round =>
    obtain ⟨j, hj, rfl, hrow, hb⟩ := hrel
    by_cases hlt : j < s.size
    · have hc : wr.cell? ⟨w.heap.size, j, none⟩ = some (.int .i64 (mg s k j)) := by
        have := hrow.cell (j := j) (by rw [fil_length]; omega)
        rw [fil_get _ _ _ _ (by omega), if_pos (by omega)] at this
        exact this
      have hc' : wr.cell? ⟨w.heap.size, j + 1, none⟩ = some (.int .i64 0) := by
        have := hrow.cell (j := j + 1) (by rw [fil_length]; omega)
        rw [fil_get _ _ _ _ (by omega), if_neg (by omega)] at this
        exact this
      have hf := hrow.free (j + 1)
      have hbd := mg_bd40 s k ⟨hk1, hk2⟩ j hj
      have HS := Lib.hid (mg_succ s k j hlt)
      have HST := Lib.hid (hrow.set (j + 1) (mg s k (j + 1))).1
      rw [fil_set] at HST
      clear hrow hrow1 hb1
      generalize mg s k j = m at *
      have i1 : (j : Int) < (s.size : Int) + 1 := by omega
      have i2 : (j : Int) < (s.size : Int) := by omega
      have i3 : (j : Int) + 1 < (s.size : Int) + 1 := by omega
      have i4 : 0 ≤ (j : Int) + 1 := by omega
      by_cases hc85 : (s[j].toNat : Int) = 85
      · rw [stepK_u hc85] at HS
        have hbb : ((s[j].toNat : Int) == 85) = true := by simpa using hc85
        clear hc85
        go_wp2
        rw [← HS.out]
        go_roundw
        case rel => exact ⟨j + 1, by omega, by go_num, HST.out, hb.setCell (Nat.le_refl _) _⟩
        case measure => first | (simp [intOf]; done) | (simp [intOf]; omega)
      · rw [stepK_d hc85] at HS
        have hbb : ((s[j].toNat : Int) == 85) = false := by simpa using hc85
        clear hc85
        go_wp2
        rw [show m - k = mg s k (j + 1) by rw [HS.out]; omega]
        go_roundw
        case rel => exact ⟨j + 1, by omega, by go_num, HST.out, hb.setCell (Nat.le_refl _) _⟩
        case measure => first | (simp [intOf]; done) | (simp [intOf]; omega)
    · go_wp2
      obtain rfl : j = s.size := by omega
      go_ret
      exact ⟨_, rfl, by unfold mgs; rw [← fil_full]; exact hrow, hb⟩
theorem ext_listR (s : ByteArray) (i j : Nat) : (s.extract i j).data.toList = (s.data.toList.drop i).take (j - i) := by
  rw [ByteArray.data_extract, Array.toList_extract]
set_option maxHeartbeats 2000000 in
theorem ratioRot_ret (s : ByteArray) (k : Int) (w : World) (hs : s.size ≤ maxLen) :
    Calls Try.prog 57 #[.string s, .int .i64 k] w (IntsRet w (raOk s k) (raV s k)) := by
  have HP : Hid (∀ w, Calls Try.prog 93 #[.string s] w fun e w' => e = .returned (.bool (pathB s)) ∧ w = w') := Lib.hid fun w => isPath_any s w hs
  rcases Bool.eq_false_or_eq_true (pathB s) with hp | hp
  · have h40 := ((pathB_iff s).1 hp).1
    by_cases hk0 : k < 0
    · have e1 : raOk s k = false := by unfold raOk; rw [decide_eq_false (by omega), Bool.false_and, Bool.and_false]
      have e2 : raV s k = [] := by unfold raV; rw [e1]; rfl
      rw [e1, e2]
      rw [hp] at HP
      clear e1 e2 hp
      go_enter Try.func57, Try.ntmps57
      go_wp2_with (go_at_call 93; refine (HP.out _).mono ?_; rintro e w' ⟨rfl, rfl⟩)
      go_ret2
      exact ⟨_, rfl, IRow.nil _ _, Below.refl _ _⟩
    · by_cases hk40 : 40 < k
      · have e1 : raOk s k = false := by unfold raOk; rw [decide_eq_false (p := k ≤ 40) (by omega), Bool.and_false, Bool.and_false]
        have e2 : raV s k = [] := by unfold raV; rw [e1]; rfl
        rw [e1, e2]
        rw [hp] at HP
        clear e1 e2 hp
        go_enter Try.func57, Try.ntmps57
        go_wp2_with (go_at_call 93; refine (HP.out _).mono ?_; rintro e w' ⟨rfl, rfl⟩)
        go_ret2
        exact ⟨_, rfl, IRow.nil _ _, Below.refl _ _⟩
      · have e1 : raOk s k = true := by unfold raOk; rw [hp, decide_eq_true (show 0 ≤ k by omega), decide_eq_true (show k ≤ 40 by omega)]; rfl
        have e2 : raV s k = rgs s k s.size := by unfold raV; rw [e1]; rfl
        rw [e1, e2]
        rw [hp] at HP
        have HJ : Hid (∀ i, i < s.size → ∀ w1 g, w1.cell? ⟨g, 0, none⟩ = some (.string (s.extract i s.size)) → w1.cell? ⟨g, 1, none⟩ = some (.string (s.extract 0 i)) → (∃ cur, w1.heap[g]? = some (.cells cur 9 (0, 0)) ∧ cur.size = 2) → Calls Try.prog 95 #[.slice (some ⟨g, 0, none⟩) 2 2] w1 (Ret w1 (.string (rotS s i)))) := Lib.hid fun i hi w1 g h1 h2 ⟨cur, h3, h4⟩ => by
          have hrow : SRow w1 g (.slice (some ⟨g, 0, none⟩) 2 2) [s.extract i s.size, s.extract 0 i] := by
            refine ⟨rfl, .inr ⟨g, 2, cur, rfl, Nat.le_refl _, h3, Nat.le_refl _, by simp [maxLen], h4, ?_⟩⟩
            rw [cell_of_row w1 g 0 cur _ (0, 0) h3] at h1
            rw [cell_of_row w1 g 1 cur _ (0, 0) h3] at h2
            have e3 : cur.toList = [.string (s.extract i s.size), .string (s.extract 0 i)] := by
              apply List.ext_getElem?
              intro j
              match j with
              | 0 => simpa using h1
              | 1 => simpa using h2
              | j + 2 => rw [List.getElem?_eq_none (by simp [h4]), List.getElem?_eq_none (by simp)]
            rw [e3]
            rfl
          have r := joinSteps_any _ _ _ w1 hrow (by simp) (fun x hx => by
            have hx2 : x.data.toList.length ≤ 40 := by
              simp at hx
              rcases hx with rfl | rfl
              · rw [ext_listR, List.length_take, List.length_drop]; simp; omega
              · rw [ext_listR, List.length_take, List.length_drop]; simp; omega
            simp at hx2
            omega)
          have e4 : strOf (catB [s.extract i s.size, s.extract 0 i]) = rotS s i := by
            unfold strOf rotS rotL
            congr 2
            have hl : s.data.toList.length = s.size := by simp
            simp only [catB, List.flatMap_cons, List.flatMap_nil, List.append_nil, ext_listR, List.drop_zero, Nat.sub_zero]
            rw [List.take_of_length_le (l := s.data.toList.drop i) (by rw [List.length_drop]; omega)]
          rwa [e4] at r
        have HLB : Hid (∀ i, i < s.size → ∀ w1, Calls Try.prog 94 #[.string (rotS s i), .int .i64 k] w1 (IntsNew w1 (fr (mg (rotS s i) k) (s.size + 1)))) := Lib.hid fun i hi w1 => by
          have hz := rotS_size s i (by omega)
          have r := leadsBy_ret (rotS s i) k w1 (by omega) (by omega)
          unfold mgs at r
          rwa [hz] at r
        have HSU : Hid (∀ i, rgs s k (i + 1) = if rgB s k i then rgs s k i ++ [(i : Int)] else rgs s k i) := Lib.hid fun _ => rfl
        have HLN := Lib.hid (rgs_length s k)
        clear e1 e2 hp
        go_enter Try.func57, Try.ntmps57
        go_wp2_with (go_at_call 93; refine (HP.out _).mono ?_; rintro e w' ⟨rfl, rfl⟩)
        go_loopw [6, 7, 8, 9, 10, 24] (fun v q1 q2 q3 q4 i wr => ∃ j : Nat, j ≤ s.size ∧ i = .int .i64 (j : Int) ∧ IRow wr w.heap.size v (rgs s k j) ∧ Below w.heap.size w wr) (fun _ _ _ _ _ i _ => s.size - (intOf i).toNat)
        case atStart => exact ⟨0, by omega, rfl, IRow.nil _ _, Below.refl _ _⟩
        case round =>
          obtain ⟨j, hj, rfl, hrow, hb⟩ := hrel
          by_cases hlt : j < s.size
          · have HJ1 := Lib.hid (HJ.out j hlt)
            have HL1 := Lib.hid (HLB.out j hlt)
            have HS1 := Lib.hid (HSU.out j)
            have hln := HLN.out j
            have hbs := hb.size
            have HGB : Hid (rgB s k j = true → fbB (mg (rotS s j) k) 1 (s.size + 1) = false) := Lib.hid fun h => by unfold rgB at h; simpa using h
            have HGN : Hid (¬ rgB s k j = true → fbB (mg (rotS s j) k) 1 (s.size + 1) = true) := Lib.hid fun h => by unfold rgB at h; simpa using h
            have b1 : (j : Int) ≤ (s.size : Int) := by omega
            have b2 : (0 : Int) ≤ (j : Int) := by omega
            have HJ2 : Hid (Calls Try.prog 95 #[.slice (some ⟨wr.heap.size, 0, none⟩) 2 2] (wr.alloc (.cells #[.string (s.extract j s.size), .string (s.extract 0 j)] 9)).drew fun e w' => e = .returned (.string (rotS s j)) ∧ Below wr.heap.size wr w') := Lib.hid (by
              have hbw : Below wr.heap.size wr (wr.alloc (.cells #[.string (s.extract j s.size), .string (s.extract 0 j)] 9)).drew := ((Below.refl _ _).alloc (Nat.le_refl _) _).drew
              refine (HJ1.out (wr.alloc (.cells #[.string (s.extract j s.size), .string (s.extract 0 j)] 9)).drew wr.heap.size (by simp) (by simp) ⟨#[.string (s.extract j s.size), .string (s.extract 0 j)], heap_alloc_new wr _, rfl⟩).mono fun e w' h => ?_
              exact ⟨h.1, hbw.trans (h.2.mono hbw.size)⟩)
            clear HJ HLB HSU HLN HJ1
            generalize mg (rotS s j) k = F at *
            generalize rotS s j = R at *
            by_cases hgd : rgB s k j = true
            · rw [if_pos hgd] at HS1
              have HFB : Hid (∀ w1 B v1, IRow w1 B v1 (fr F (s.size + 1)) → Calls Try.prog 96 #[v1, .int .i64 1] w1 fun e w' => e = .returned (.tuple #[.int .i64 (fbV F 1 (s.size + 1)), .bool false]) ∧ w1 = w') := Lib.hid fun w1 B v1 h => by
                rw [← HGB.out hgd]
                exact firstBelow_any F (s.size + 1) 1 v1 B w1 h (by omega)
              generalize fbV F 1 (s.size + 1) = fv at *
              generalize rgs s k j = L at *
              go_wp2_with fail
              go_region_law (first
                | (go_simp; go_at_call 95; refine HJ2.out.mono ?_; rintro e w1 ⟨rfl, hb1⟩)
                | (go_simp; go_at_call 94; refine (HL1.out _).mono ?_; rintro e w2 ⟨v2, rfl, hr2, hb2⟩; have hb12 := hb1.trans (hb2.mono hb1.size); have hrow2 := hrow.below hb12; have hbw2 := hb.trans (hb12.mono hbs); have hbs2 := hbw2.size; obtain ⟨A2, c2, rfl⟩ := hr2.shape))
              go_wp2_with (first
                | (go_at_call 96; refine (HFB.out _ _ _ hr2).mono ?_; rintro e w' ⟨rfl, rfl⟩)
                | (at_builtin; refine wpList_push (.tmp 44) (.tmp 46) rfl rfl w.heap.size _ L rfl hrow2 rfl (by omega) hbs2 ?_; intro v3 w3 hr3 hg3 hat3))
              have HB3 := Lib.hid (hbw2.grown hg3 hbs2 (fun q hq => (hrow2.blk q hq).1))
              have HR3 := Lib.hid hr3
              rw [← HS1.out] at HR3
              clear hr3 hg3 hat3 hrow2 hrow hr2 hb2 hb1 hb12 hbw2 hb
              go_roundw
              case rel => exact ⟨j + 1, by omega, by go_num, HR3.out, HB3.out⟩
              case measure => first | (simp [intOf]; done) | (simp [intOf]; omega)
            · rw [if_neg hgd] at HS1
              have HFB : Hid (∀ w1 B v1, IRow w1 B v1 (fr F (s.size + 1)) → Calls Try.prog 96 #[v1, .int .i64 1] w1 fun e w' => e = .returned (.tuple #[.int .i64 (fbV F 1 (s.size + 1)), .bool true]) ∧ w1 = w') := Lib.hid fun w1 B v1 h => by
                rw [← HGN.out hgd]
                exact firstBelow_any F (s.size + 1) 1 v1 B w1 h (by omega)
              generalize fbV F 1 (s.size + 1) = fv at *
              go_wp2_with fail
              go_region_law (first
                | (go_simp; go_at_call 95; refine HJ2.out.mono ?_; rintro e w1 ⟨rfl, hb1⟩)
                | (go_simp; go_at_call 94; refine (HL1.out _).mono ?_; rintro e w2 ⟨v2, rfl, hr2, hb2⟩; have hb12 := hb1.trans (hb2.mono hb1.size); have hrow2 := hrow.below hb12; have hbw2 := hb.trans (hb12.mono hbs); obtain ⟨A2, c2, rfl⟩ := hr2.shape))
              go_wp2_with (go_at_call 96; refine (HFB.out _ _ _ hr2).mono ?_; rintro e w' ⟨rfl, rfl⟩)
              have HB3 := Lib.hid hbw2
              have HR3 := Lib.hid hrow2
              rw [← HS1.out] at HR3
              clear hrow2 hrow hr2 hb2 hb1 hb12 hbw2 hb
              go_roundw
              case rel => exact ⟨j + 1, by omega, by go_num, HR3.out, HB3.out⟩
              case measure => first | (simp [intOf]; done) | (simp [intOf]; omega)
          · have hk2 : j = s.size := by omega
            subst hk2
            go_wp2_with fail
            go_ret2
            exact ⟨_, rfl, hrow, hb⟩
  · have e1 : raOk s k = false := by unfold raOk; rw [hp, Bool.false_and]
    have e2 : raV s k = [] := by unfold raV; rw [e1]; rfl
    rw [e1, e2]
    rw [hp] at HP
    clear e1 e2 hp
    go_enter Try.func57, Try.ntmps57
    go_wp2_with (go_at_call 93; refine (HP.out _).mono ?_; rintro e w' ⟨rfl, rfl⟩)
    go_ret2
    exact ⟨_, rfl, IRow.nil _ _, Below.refl _ _⟩
end Go.Proofs.Ytgajknnfmnnfeaa
