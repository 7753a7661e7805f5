/- Pack 7 of what FnPathsReflected needs: Choose, ToS. -/
import Derived.Test.YtachijliaedndaaKFnPathsReflected6
/- paChoose, paSteps, spec.CountPaths. -/
namespace Go.Proofs.Ytachijliaedndaa
set_option maxRecDepth 100000
open Go.RowKit
/-- the row of the numbers for i, entries from j on already those for i + 1 -/
def chRow (k i j : Nat) : List Int := (List.range (k + 1)).map fun x => ((if j < x then chs (i + 1) x else chs i x : Nat) : Int)
theorem chRow_length (k i j : Nat) : (chRow k i j).length = k + 1 := by simp [chRow]
theorem chRow_get (k i j x : Nat) (h : x ≤ k) : (chRow k i j).getD x 0 = ((if j < x then chs (i + 1) x else chs i x : Nat) : Int) := by
  unfold chRow; rw [List.getD_eq_getElem?_getD, List.getElem?_map, List.getElem?_range (by omega)]; rfl
theorem chRow_start (k : Nat) : (List.replicate (k + 1) (0 : Int)).set 0 1 = chRow k 0 k := by
  apply List.ext_getElem
  · simp [chRow]
  · intro x h1 h2
    simp [chRow] at h2 ⊢
    rw [List.getElem_set]
    by_cases e : 0 = x
    · subst e; simp [chs_zero]
    · rw [if_neg e, if_neg (by omega), List.getElem_replicate, chs_lt 0 x (by omega)]; rfl
theorem chRow_step (k i j : Nat) (h : j + 1 ≤ k) : (chRow k i (j + 1)).set (j + 1) ((chs i (j + 1) : Nat) + (chs i j : Nat) : Int) = chRow k i j := by
  apply List.ext_getElem
  · simp [chRow]
  · intro x h1 h2
    simp [chRow] at h2 ⊢
    rw [List.getElem_set]
    by_cases e : j + 1 = x
    · subst e
      rw [if_pos rfl, if_pos (by omega), chs_succ]
      omega
    · rw [if_neg e, List.getElem_map, List.getElem_range]
      by_cases c : j + 1 < x
      · rw [if_pos c, if_pos (by omega)]
      · rw [if_neg c, if_neg (by omega)]
theorem chRow_next (k i : Nat) : chRow k i 0 = chRow k (i + 1) k := by
  apply List.ext_getElem
  · simp [chRow]
  · intro x h1 h2
    simp [chRow] at h2 ⊢
    rw [if_neg (show ¬ k < x by omega)]
    by_cases c : 0 < x
    · rw [if_pos c]
    · have : x = 0 := by omega
      subst this
      simp [chs_zero]
theorem chRow_cut (k i : Nat) : chRow k i k = chRow k i (min (i + 1) k) := by
  apply List.ext_getElem
  · simp [chRow]
  · intro x h1 h2
    simp [chRow] at h2 ⊢
    rw [if_neg (show ¬ k < x by omega)]
    by_cases c : min (i + 1) k < x
    · rw [if_pos c, chs_lt i x (by omega), chs_lt (i + 1) x (by omega)]
    · rw [if_neg c]
set_option maxHeartbeats 400000 in
theorem choose_no (n k : Int) (w : World) (h : k < 0 ∨ n < k) : Calls Try.prog 195 #[.int .i64 n, .int .i64 k] w (Ret w (.int .i64 0)) := by
  by_cases h1 : k < 0
  · clear h
    go_enter Try.func195, Try.ntmps195
    go_wp2
    go_ret
    exact ⟨rfl, Below.refl _ _⟩
  · have h2 : n < k := by omega
    clear h
    go_enter Try.func195, Try.ntmps195
    go_wp2
    go_ret
    exact ⟨rfl, Below.refl _ _⟩
set_option maxHeartbeats 1000000 in
theorem choose_yes (n k : Nat) (w : World) (hk : k ≤ n) (hn : n ≤ 60) : Calls Try.prog 195 #[.int .i64 n, .int .i64 k] w (Ret w (.int .i64 (chs n k : Nat))) := by
  have h1 : ¬ (k : Int) < 0 := by omega
  have h2 : ¬ (n : Int) < k := by omega
  obtain ⟨i0, hi, hz0, hz1, hz2⟩ := info_parts intInfo
  go_enter Try.func195, Try.ntmps195
  go_wp2_with (refine wpList_make_full _ rfl (.tmp 16) (.tmp 16) 30 rfl w.heap.size 3 i0 (.int .i64 0) 1 Try.underlying30 hi hz0 hz1 .i64 .i64 _ _ (k + 1) rfl rfl (by omega) (by omega) (by rw [hz2]; omega) (by unfold maxLen; omega) (Nat.le_refl _) ?_; intro w1 hown1 hgrow1; have hrow1 : IRow w1 w.heap.size (.slice (some ⟨w.heap.size, 0, none⟩) (k + 1) (k + 1)) (List.replicate (k + 1) 0) := (IRow.of_own hown1 (by simp) (by rw [madeOne _ rfl]; simp)); have hb1 : Below w.heap.size w w1 := ((Below.refl _ _).grown hgrow1 (Nat.le_refl _) (by simp)); have hc1 := hrow1.cell (j := 0) (by simp); have hf1 := hrow1.free 0; have HST := Lib.hid (hrow1.set 0 1); clear hown1 hgrow1)
  have hb2 : Below w.heap.size w (w1.setCell ⟨w.heap.size, 0, none⟩ (.int .i64 1)) := hb1.setCell (Nat.le_refl _) _
  have hst := HST.out.1
  rw [chRow_start] at hst
  clear hc1 hf1 HST hb1 hrow1
  generalize w1.setCell ⟨w.heap.size, 0, none⟩ (.int .i64 1) = w2 at *
  go_loopw [6] (fun c wr => ∃ i : Nat, i ≤ n ∧ c = .int .i64 ((i : Int) + 1) ∧ IRow wr w.heap.size (.slice (some ⟨w.heap.size, 0, none⟩) (k + 1) (k + 1)) (chRow k i k) ∧ Below w.heap.size w wr) (fun c _ => n + 1 - (intOf c).toNat)
  case atStart => exact ⟨0, by omega, rfl, hst, hb2⟩
  case round =>
    obtain ⟨i, hin, rfl, hrow, hb⟩ := hrel
    clear hst hb2
    by_cases hlt : i < n
    · obtain ⟨wo, rfl⟩ : ∃ wo : World, wo = wr := ⟨_, rfl⟩
      have HE : Hid ((if (k : Int) < (i : Int) + 1 then (k : Int) else (i : Int) + 1) = ((min (i + 1) k : Nat) : Int)) := by unfold Hid; split <;> omega
      obtain ⟨m0, hm0⟩ : ∃ m0, m0 = min (i + 1) k := ⟨_, rfl⟩
      rw [chRow_cut, ← hm0] at hrow
      rw [← hm0] at HE
      have hmk : m0 ≤ k := by omega
      clear hm0
      go_wp2_with (go_at_call 229; refine (least_any _ _ _).mono ?_; rintro e w' ⟨rfl, rfl⟩; rw [HE.out])
      go_loopw [7] (fun j wr => ∃ m : Nat, m ≤ k ∧ j = .int .i64 (m : Int) ∧ IRow wr w.heap.size (.slice (some ⟨w.heap.size, 0, none⟩) (k + 1) (k + 1)) (chRow k i m) ∧ Below w.heap.size w wr) (fun j _ => (intOf j).toNat)
      case atStart => exact ⟨m0, hmk, rfl, hrow, hb⟩
      case round =>
        obtain ⟨m, hm, rfl, hrow2, hb2⟩ := hrel
        clear hrow hb
        by_cases hpos : 0 < m
        · obtain ⟨j, rfl⟩ : ∃ j, m = j + 1 := ⟨m - 1, by omega⟩
          have e1 := hrow2.cell (j := j + 1) (by rw [chRow_length]; omega)
          have e2 := hrow2.cell (j := j) (by rw [chRow_length]; omega)
          rw [chRow_get _ _ _ _ (by omega), if_neg (by omega)] at e1 e2
          have f1 := hrow2.free (j + 1)
          have b1 := chs_small i (j + 1) (by omega)
          have b2 := chs_small i j (by omega)
          have HST := Lib.hid (hrow2.set (j + 1) ((chs i (j + 1) : Nat) + (chs i j : Nat) : Int)).1
          rw [chRow_step k i j (by omega)] at HST
          rw [show ((j + 1 : Nat) : Int) = (j : Int) + 1 from by omega]
          have i1 : (j : Int) + 1 < (k : Int) + 1 := by omega
          have i2 : (j : Int) < (k : Int) + 1 := by omega
          have i3 : 0 ≤ (j : Int) + 1 := by omega
          go_wp2
          go_region
          go_wp2
          go_roundw
          case rel => exact ⟨j, by omega, by go_num, HST.drew, (hb2.setCell (Nat.le_refl _) _).drew⟩
          case measure => first | (simp [intOf]; done) | (simp [intOf]; omega)
        · obtain rfl : m = 0 := by omega
          rw [chRow_next] at hrow2
          go_wp2
          go_roundw
          case rel => exact ⟨i + 1, by omega, by go_num, hrow2, hb2⟩
          case measure => simp [intOf]; omega
    · obtain rfl : i = n := by omega
      have e1 := hrow.cell (j := k) (by rw [chRow_length]; omega)
      rw [chRow_get _ _ _ _ (by omega), if_neg (by omega)] at e1
      go_wp2
      go_ret
      exact ⟨rfl, hb⟩
theorem choose_ret (n k : Int) (w : World) (hn : n ≤ 60) : Calls Try.prog 195 #[.int .i64 n, .int .i64 k] w (Ret w (.int .i64 (chZ n k))) := by
  by_cases h : k < 0 ∨ n < k
  · rw [chZ_no h]; exact choose_no n k w h
  · obtain ⟨a, rfl⟩ := Int.eq_ofNat_of_zero_le (show 0 ≤ n by omega)
    obtain ⟨b, rfl⟩ := Int.eq_ofNat_of_zero_le (show 0 ≤ k by omega)
    have := chZ_nat a b
    rw [this]
    exact choose_yes a b w (by omega) (by omega)
set_option maxHeartbeats 400000 in
theorem steps_any (u d : Int) (w : World) : Calls Try.prog 199 #[.int .i64 u, .int .i64 d] w fun e w' => e = .returned (.bool (cntOk u d)) ∧ w = w' := by
  by_cases h1 : 0 ≤ u ∧ u ≤ 40
  · have i1 := inB_yes h1
    by_cases h2 : 0 ≤ d ∧ d ≤ 40
    · have i2 := inB_yes h2
      by_cases h3 : u + d ≤ 40
      · rw [cntOk_yes ⟨h1.1, h2.1, h3⟩]
        go_enter Try.func199, Try.ntmps199
        go_wp2_with fail
        refine (in_any u 0 40 _).mono ?_; rintro e w' ⟨rfl, rfl⟩
        go_wp2_with fail
        refine (in_any d 0 40 _).mono ?_; rintro e w' ⟨rfl, rfl⟩
        go_wp2_with fail
        go_ret
        exact ⟨rfl, rfl⟩
      · rw [cntOk_no (fun h => h3 h.2.2)]
        go_enter Try.func199, Try.ntmps199
        go_wp2_with fail
        refine (in_any u 0 40 _).mono ?_; rintro e w' ⟨rfl, rfl⟩
        go_wp2_with fail
        refine (in_any d 0 40 _).mono ?_; rintro e w' ⟨rfl, rfl⟩
        go_wp2_with fail
        go_ret
        exact ⟨ret_bool (decide_eq_false (by omega)), rfl⟩
    · have i2 := inB_no h2
      rw [cntOk_no (fun h => h2 ⟨h.2.1, by omega⟩)]
      go_enter Try.func199, Try.ntmps199
      go_wp2_with fail
      refine (in_any u 0 40 _).mono ?_; rintro e w' ⟨rfl, rfl⟩
      go_wp2_with fail
      refine (in_any d 0 40 _).mono ?_; rintro e w' ⟨rfl, rfl⟩
      go_wp2_with fail
      go_ret
      exact ⟨rfl, rfl⟩
  · have i1 := inB_no h1
    rw [cntOk_no (fun h => h1 ⟨h.1, by omega⟩)]
    go_enter Try.func199, Try.ntmps199
    go_wp2_with fail
    refine (in_any u 0 40 _).mono ?_; rintro e w' ⟨rfl, rfl⟩
    go_wp2_with fail
    go_ret
    exact ⟨rfl, rfl⟩
theorem countW_ret (u d : Int) (w : World) : Calls Try.prog 71 #[.int .i64 u, .int .i64 d] w (Ret w (.tuple #[.int .i64 (cntV u d), .bool (cntOk u d)])) :=
  (count_ret u d w).mono fun _ _ ⟨h1, h2⟩ => ⟨h1, h2 ▸ Below.refl _ _⟩
end Go.Proofs.Ytachijliaedndaa

/- The model's counts by reflections: l1Abs, miTo, miTouching, CountTouching, CountAbove, CountHighest. -/
namespace Go.Proofs.Ytachijliaedndaa
open Go.RowKit
set_option linter.unusedVariables false
theorem absI_any (a : Int) (w : World) (ha : -1000000 ≤ a ∧ a ≤ 1000000) : Calls Try.prog 211 #[.int .i64 a] w fun e w' => e = .returned (.int .i64 (if a < -a then -a else a)) ∧ w = w' := by
  have HM := Lib.hid (most_any a (-a))
  obtain ⟨a1, a2⟩ := ha
  go_enter Try.func211, Try.ntmps211
  go_wp2_with (go_at_call 214; refine (HM.out _).mono ?_; rintro e w' ⟨rfl, rfl⟩)
  all_goals go_ret
  all_goals exact ⟨rfl, rfl⟩
set_option maxHeartbeats 400000 in
theorem miTo_ret (n h : Int) (w : World) (hn : 0 ≤ n ∧ n ≤ 40) (hh : -1000000 ≤ h ∧ h ≤ 1000000) : Calls Try.prog 204 #[.int .i64 n, .int .i64 h] w (Ret w (.int .i64 (toZ n h))) := by
  have HA : Hid (∀ w, Calls Try.prog 211 #[.int .i64 h] w fun e w' => e = .returned (.int .i64 (if h < -h then -h else h)) ∧ w = w') := Lib.hid fun w => absI_any h w hh
  obtain ⟨n1, n2⟩ := hn
  obtain ⟨h1, h2⟩ := hh
  by_cases ho : (n + h) % 2 = 0
  · have t0 : (n + h).tmod 2 = 0 := Int.tmod_eq_zero_of_dvd (Int.dvd_of_emod_eq_zero ho)
    by_cases hb : h < -n ∨ n < h
    · have e : toZ n h = 0 := by unfold toZ; rw [if_pos (.inr hb)]
      have c0 : n < (if h < -h then -h else h) := by split <;> omega
      rw [e]
      clear e hb ho
      generalize (if h < -h then -h else h) = z at *
      go_enter Try.func204, Try.ntmps204
      go_wp2_with (go_at_call 211; refine (HA.out _).mono ?_; rintro e w' ⟨rfl, rfl⟩)
      go_ret
      exact ⟨rfl, Below.refl _ _⟩
    · have e : toZ n h = chZ n ((n + h) / 2) := by unfold toZ; rw [if_neg (by omega)]
      have c0 : ¬ n < (if h < -h then -h else h) := by split <;> omega
      have HC : Hid (∀ w, Calls Try.prog 195 #[.int .i64 n, .int .i64 ((n + h).tdiv 2)] w (Ret w (.int .i64 (chZ n ((n + h) / 2))))) := Lib.hid fun w => by
        have := choose_ret n ((n + h) / 2) w (by omega)
        rw [Int.tdiv_eq_ediv_of_nonneg (by omega)]
        exact this
      rw [e]
      clear e hb ho
      generalize (if h < -h then -h else h) = z at *
      go_enter Try.func204, Try.ntmps204
      go_wp2_with (first | (go_at_call 211; refine (HA.out _).mono ?_; rintro e w' ⟨rfl, rfl⟩) | (go_at_call 195; refine (HC.out _).mono ?_; rintro e w1 ⟨rfl, hb1⟩))
      go_ret
      exact ⟨rfl, hb1⟩
  · have e : toZ n h = 0 := by unfold toZ; rw [if_pos (.inl ho)]
    have t0 : ¬ (n + h).tmod 2 = 0 := fun q => ho (Int.emod_eq_zero_of_dvd (Int.dvd_of_tmod_eq_zero q))
    rw [e]
    clear e ho
    generalize (if h < -h then -h else h) = z at *
    go_enter Try.func204, Try.ntmps204
    go_wp2_with (go_at_call 211; refine (HA.out _).mono ?_; rintro e w' ⟨rfl, rfl⟩)
    go_ret
    exact ⟨rfl, Below.refl _ _⟩
set_option maxHeartbeats 400000 in
theorem miTouching_ret (n e h : Int) (w : World) (hn : 0 ≤ n ∧ n ≤ 40) (he : -40 ≤ e ∧ e ≤ 40) (hh : -1000 ≤ h ∧ h ≤ 1000) : Calls Try.prog 205 #[.int .i64 n, .int .i64 e, .int .i64 h] w (Ret w (.int .i64 (tchZ n e h))) := by
  have HL := Lib.hid (least_any 0 e)
  have HM := Lib.hid (most_any 0 e)
  have H1 : Hid (∀ w, Calls Try.prog 204 #[.int .i64 n, .int .i64 e] w (Ret w (.int .i64 (toZ n e)))) := Lib.hid fun w => miTo_ret n e w hn (by omega)
  have H2 : Hid (∀ w, Calls Try.prog 204 #[.int .i64 n, .int .i64 (2 * h - e)] w (Ret w (.int .i64 (toZ n (2 * h - e))))) := Lib.hid fun w => miTo_ret n (2 * h - e) w hn (by omega)
  have HI := Lib.hid (in_any h (if e < 0 then e else 0) (if 0 < e then e else 0))
  have E1 : (if 0 < e then 0 else e) = (if e < 0 then e else 0) := by split <;> split <;> omega
  have E2 : (if e < 0 then 0 else e) = (if 0 < e then e else 0) := by split <;> split <;> omega
  have E : tchZ n e h = if inB h (if e < 0 then e else 0) (if 0 < e then e else 0) = true then toZ n e else toZ n (2 * h - e) := by unfold tchZ; rw [E1, E2]
  clear E1 E2
  obtain ⟨h1, h2⟩ := hh
  obtain ⟨e1, e2⟩ := he
  clear hn
  generalize (if e < 0 then e else 0) = l at *
  generalize (if 0 < e then e else 0) = m at *
  rcases Bool.eq_false_or_eq_true (inB h l m) with hi | hi
  · rw [E, if_pos hi]
    clear E
    go_enter Try.func205, Try.ntmps205
    go_wp2_with (first | (go_at_call 229; refine (HL.out _).mono ?_; rintro e w' ⟨rfl, rfl⟩) | (go_at_call 214; refine (HM.out _).mono ?_; rintro e w' ⟨rfl, rfl⟩) | (go_at_call 173; refine (HI.out _).mono ?_; rintro e w' ⟨rfl, rfl⟩) | (go_at_call 204; refine (H1.out _).mono ?_; rintro e w1 ⟨rfl, hb1⟩))
    go_ret
    exact ⟨rfl, hb1⟩
  · rw [E, if_neg (by rw [hi]; simp)]
    clear E
    go_enter Try.func205, Try.ntmps205
    go_wp2_with (first | (go_at_call 229; refine (HL.out _).mono ?_; rintro e w' ⟨rfl, rfl⟩) | (go_at_call 214; refine (HM.out _).mono ?_; rintro e w' ⟨rfl, rfl⟩) | (go_at_call 173; refine (HI.out _).mono ?_; rintro e w' ⟨rfl, rfl⟩) | (go_at_call 204; refine (H2.out _).mono ?_; rintro e w1 ⟨rfl, hb1⟩))
    go_ret
    exact ⟨rfl, hb1⟩
end Go.Proofs.Ytachijliaedndaa
