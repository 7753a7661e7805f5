/- Pack 18 of what FnRecordsTold needs: Choose, RatMath. -/
import Derived.Test.YtachijliaedndaaKFnRecordsTold17
/- paChoose, paSteps, spec.CountPaths. -/
namespace Go.Proofs.Ytachijliaedndaa
set_option maxRecDepth 100000
open Go.RowKit
/-- the row of the numbers for i, entries from j on already those for i + 1 -/
def chRow (k i j : Nat) : List Int := (List.range (k + 1)).map fun x => ((if j < x then chs (i + 1) x else chs i x : Nat) : Int)
theorem chRow_length (k i j : Nat) : (chRow k i j).length = k + 1 := by simp [chRow]
theorem chRow_get (k i j x : Nat) (h : x ≤ k) : (chRow k i j).getD x 0 = ((if j < x then chs (i + 1) x else chs i x : Nat) : Int) := by
  unfold chRow; rw [List.getD_eq_getElem?_getD, List.getElem?_map, List.getElem?_range (by omega)]; rfl
theorem chRow_start (k : Nat) : (List.replicate (k + 1) (0 : Int)).set 0 1 = chRow k 0 k := by
  apply List.ext_getElem
  · simp [chRow]
  · intro x h1 h2
    simp [chRow] at h2 ⊢
    rw [List.getElem_set]
    by_cases e : 0 = x
    · subst e; simp [chs_zero]
    · rw [if_neg e, if_neg (by omega), List.getElem_replicate, chs_lt 0 x (by omega)]; rfl
theorem chRow_step (k i j : Nat) (h : j + 1 ≤ k) : (chRow k i (j + 1)).set (j + 1) ((chs i (j + 1) : Nat) + (chs i j : Nat) : Int) = chRow k i j := by
  apply List.ext_getElem
  · simp [chRow]
  · intro x h1 h2
    simp [chRow] at h2 ⊢
    rw [List.getElem_set]
    by_cases e : j + 1 = x
    · subst e
      rw [if_pos rfl, if_pos (by omega), chs_succ]
      omega
    · rw [if_neg e, List.getElem_map, List.getElem_range]
      by_cases c : j + 1 < x
      · rw [if_pos c, if_pos (by omega)]
      · rw [if_neg c, if_neg (by omega)]
theorem chRow_next (k i : Nat) : chRow k i 0 = chRow k (i + 1) k := by
  apply List.ext_getElem
  · simp [chRow]
  · intro x h1 h2
    simp [chRow] at h2 ⊢
    rw [if_neg (show ¬ k < x by omega)]
    by_cases c : 0 < x
    · rw [if_pos c]
    · have : x = 0 := by omega
      subst this
      simp [chs_zero]
theorem chRow_cut (k i : Nat) : chRow k i k = chRow k i (min (i + 1) k) := by
  apply List.ext_getElem
  · simp [chRow]
  · intro x h1 h2
    simp [chRow] at h2 ⊢
    rw [if_neg (show ¬ k < x by omega)]
    by_cases c : min (i + 1) k < x
    · rw [if_pos c, chs_lt i x (by omega), chs_lt (i + 1) x (by omega)]
    · rw [if_neg c]
set_option maxHeartbeats 400000 in
theorem choose_no (n k : Int) (w : World) (h : k < 0 ∨ n < k) : Calls Try.prog 195 #[.int .i64 n, .int .i64 k] w (Ret w (.int .i64 0)) := by
  by_cases h1 : k < 0
  · clear h
    go_enter Try.func195, Try.ntmps195
    go_wp2
    go_ret
    exact ⟨rfl, Below.refl _ _⟩
  · have h2 : n < k := by omega
    clear h
    go_enter Try.func195, Try.ntmps195
    go_wp2
    go_ret
    exact ⟨rfl, Below.refl _ _⟩
set_option maxHeartbeats 1000000 in
theorem choose_yes (n k : Nat) (w : World) (hk : k ≤ n) (hn : n ≤ 60) : Calls Try.prog 195 #[.int .i64 n, .int .i64 k] w (Ret w (.int .i64 (chs n k : Nat))) := by
  have h1 : ¬ (k : Int) < 0 := by omega
  have h2 : ¬ (n : Int) < k := by omega
  obtain ⟨i0, hi, hz0, hz1, hz2⟩ := info_parts intInfo
  go_enter Try.func195, Try.ntmps195
  go_wp2_with (refine wpList_make_full _ rfl (.tmp 16) (.tmp 16) 30 rfl w.heap.size 3 i0 (.int .i64 0) 1 Try.underlying30 hi hz0 hz1 .i64 .i64 _ _ (k + 1) rfl rfl (by omega) (by omega) (by rw [hz2]; omega) (by unfold maxLen; omega) (Nat.le_refl _) ?_; intro w1 hown1 hgrow1; have hrow1 : IRow w1 w.heap.size (.slice (some ⟨w.heap.size, 0, none⟩) (k + 1) (k + 1)) (List.replicate (k + 1) 0) := (IRow.of_own hown1 (by simp) (by rw [madeOne _ rfl]; simp)); have hb1 : Below w.heap.size w w1 := ((Below.refl _ _).grown hgrow1 (Nat.le_refl _) (by simp)); have hc1 := hrow1.cell (j := 0) (by simp); have hf1 := hrow1.free 0; have HST := Lib.hid (hrow1.set 0 1); clear hown1 hgrow1)
  have hb2 : Below w.heap.size w (w1.setCell ⟨w.heap.size, 0, none⟩ (.int .i64 1)) := hb1.setCell (Nat.le_refl _) _
  have hst := HST.out.1
  rw [chRow_start] at hst
  clear hc1 hf1 HST hb1 hrow1
  generalize w1.setCell ⟨w.heap.size, 0, none⟩ (.int .i64 1) = w2 at *
  go_loopw [6] (fun c wr => ∃ i : Nat, i ≤ n ∧ c = .int .i64 ((i : Int) + 1) ∧ IRow wr w.heap.size (.slice (some ⟨w.heap.size, 0, none⟩) (k + 1) (k + 1)) (chRow k i k) ∧ Below w.heap.size w wr) (fun c _ => n + 1 - (intOf c).toNat)
  case atStart => exact ⟨0, by omega, rfl, hst, hb2⟩
  case round =>
    obtain ⟨i, hin, rfl, hrow, hb⟩ := hrel
    clear hst hb2
    by_cases hlt : i < n
    · obtain ⟨wo, rfl⟩ : ∃ wo : World, wo = wr := ⟨_, rfl⟩
      have HE : Hid ((if (k : Int) < (i : Int) + 1 then (k : Int) else (i : Int) + 1) = ((min (i + 1) k : Nat) : Int)) := by unfold Hid; split <;> omega
      obtain ⟨m0, hm0⟩ : ∃ m0, m0 = min (i + 1) k := ⟨_, rfl⟩
      rw [chRow_cut, ← hm0] at hrow
      rw [← hm0] at HE
      have hmk : m0 ≤ k := by omega
      clear hm0
      go_wp2_with (go_at_call 229; refine (least_any _ _ _).mono ?_; rintro e w' ⟨rfl, rfl⟩; rw [HE.out])
      go_loopw [7] (fun j wr => ∃ m : Nat, m ≤ k ∧ j = .int .i64 (m : Int) ∧ IRow wr w.heap.size (.slice (some ⟨w.heap.size, 0, none⟩) (k + 1) (k + 1)) (chRow k i m) ∧ Below w.heap.size w wr) (fun j _ => (intOf j).toNat)
      case atStart => exact ⟨m0, hmk, rfl, hrow, hb⟩
      case round =>
        obtain ⟨m, hm, rfl, hrow2, hb2⟩ := hrel
        clear hrow hb
        by_cases hpos : 0 < m
        · obtain ⟨j, rfl⟩ : ∃ j, m = j + 1 := ⟨m - 1, by omega⟩
          have e1 := hrow2.cell (j := j + 1) (by rw [chRow_length]; omega)
          have e2 := hrow2.cell (j := j) (by rw [chRow_length]; omega)
          rw [chRow_get _ _ _ _ (by omega), if_neg (by omega)] at e1 e2
          have f1 := hrow2.free (j + 1)
          have b1 := chs_small i (j + 1) (by omega)
          have b2 := chs_small i j (by omega)
          have HST := Lib.hid (hrow2.set (j + 1) ((chs i (j + 1) : Nat) + (chs i j : Nat) : Int)).1
          rw [chRow_step k i j (by omega)] at HST
          rw [show ((j + 1 : Nat) : Int) = (j : Int) + 1 from by omega]
          have i1 : (j : Int) + 1 < (k : Int) + 1 := by omega
          have i2 : (j : Int) < (k : Int) + 1 := by omega
          have i3 : 0 ≤ (j : Int) + 1 := by omega
          go_wp2
          go_region
          go_wp2
          go_roundw
          case rel => exact ⟨j, by omega, by go_num, HST.drew, (hb2.setCell (Nat.le_refl _) _).drew⟩
          case measure => first | (simp [intOf]; done) | (simp [intOf]; omega)
        · obtain rfl : m = 0 := by omega
          rw [chRow_next] at hrow2
          go_wp2
          go_roundw
          case rel => exact ⟨i + 1, by omega, by go_num, hrow2, hb2⟩
          case measure => simp [intOf]; omega
    · obtain rfl : i = n := by omega
      have e1 := hrow.cell (j := k) (by rw [chRow_length]; omega)
      rw [chRow_get _ _ _ _ (by omega), if_neg (by omega)] at e1
      go_wp2
      go_ret
      exact ⟨rfl, hb⟩
theorem choose_ret (n k : Int) (w : World) (hn : n ≤ 60) : Calls Try.prog 195 #[.int .i64 n, .int .i64 k] w (Ret w (.int .i64 (chZ n k))) := by
  by_cases h : k < 0 ∨ n < k
  · rw [chZ_no h]; exact choose_no n k w h
  · obtain ⟨a, rfl⟩ := Int.eq_ofNat_of_zero_le (show 0 ≤ n by omega)
    obtain ⟨b, rfl⟩ := Int.eq_ofNat_of_zero_le (show 0 ≤ k by omega)
    have := chZ_nat a b
    rw [this]
    exact choose_yes a b w (by omega) (by omega)
set_option maxHeartbeats 400000 in
theorem steps_any (u d : Int) (w : World) : Calls Try.prog 199 #[.int .i64 u, .int .i64 d] w fun e w' => e = .returned (.bool (cntOk u d)) ∧ w = w' := by
  by_cases h1 : 0 ≤ u ∧ u ≤ 40
  · have i1 := inB_yes h1
    by_cases h2 : 0 ≤ d ∧ d ≤ 40
    · have i2 := inB_yes h2
      by_cases h3 : u + d ≤ 40
      · rw [cntOk_yes ⟨h1.1, h2.1, h3⟩]
        go_enter Try.func199, Try.ntmps199
        go_wp2_with fail
        refine (in_any u 0 40 _).mono ?_; rintro e w' ⟨rfl, rfl⟩
        go_wp2_with fail
        refine (in_any d 0 40 _).mono ?_; rintro e w' ⟨rfl, rfl⟩
        go_wp2_with fail
        go_ret
        exact ⟨rfl, rfl⟩
      · rw [cntOk_no (fun h => h3 h.2.2)]
        go_enter Try.func199, Try.ntmps199
        go_wp2_with fail
        refine (in_any u 0 40 _).mono ?_; rintro e w' ⟨rfl, rfl⟩
        go_wp2_with fail
        refine (in_any d 0 40 _).mono ?_; rintro e w' ⟨rfl, rfl⟩
        go_wp2_with fail
        go_ret
        exact ⟨ret_bool (decide_eq_false (by omega)), rfl⟩
    · have i2 := inB_no h2
      rw [cntOk_no (fun h => h2 ⟨h.2.1, by omega⟩)]
      go_enter Try.func199, Try.ntmps199
      go_wp2_with fail
      refine (in_any u 0 40 _).mono ?_; rintro e w' ⟨rfl, rfl⟩
      go_wp2_with fail
      refine (in_any d 0 40 _).mono ?_; rintro e w' ⟨rfl, rfl⟩
      go_wp2_with fail
      go_ret
      exact ⟨rfl, rfl⟩
  · have i1 := inB_no h1
    rw [cntOk_no (fun h => h1 ⟨h.1, by omega⟩)]
    go_enter Try.func199, Try.ntmps199
    go_wp2_with fail
    refine (in_any u 0 40 _).mono ?_; rintro e w' ⟨rfl, rfl⟩
    go_wp2_with fail
    go_ret
    exact ⟨rfl, rfl⟩
theorem countW_ret (u d : Int) (w : World) : Calls Try.prog 71 #[.int .i64 u, .int .i64 d] w (Ret w (.tuple #[.int .i64 (cntV u d), .bool (cntOk u d)])) :=
  (count_ret u d w).mono fun _ _ ⟨h1, h2⟩ => ⟨h1, h2 ▸ Below.refl _ _⟩
end Go.Proofs.Ytachijliaedndaa

/- Rotations of a path, and which of them have more U than k times as many D in each beginning. -/
namespace Go.Proofs.Ytachijliaedndaa
open Go.RowKit
set_option linter.unusedVariables false
theorem mg_bd40 (s : ByteArray) (k : Int) (hk : 0 ≤ k ∧ k ≤ 40) : ∀ j, j ≤ s.size → -(40 * (j : Int)) ≤ mg s k j ∧ mg s k j ≤ j
  | 0, _ => by rw [mg_zero]; omega
  | j + 1, h => by
    have h1 := mg_bd40 s k hk j (by omega)
    rw [mg_succ s k j (by omega)]
    unfold stepK
    split <;> omega
def rotL (s : ByteArray) (i : Nat) : List UInt8 := s.data.toList.drop i ++ s.data.toList.take i
def rotS (s : ByteArray) (i : Nat) : ByteArray := ⟨(rotL s i).toArray⟩
theorem rotS_size (s : ByteArray) (i : Nat) (h : i ≤ s.size) : (rotS s i).size = s.size := by
  have h1 : (rotS s i).size = (rotL s i).length := by simp [rotS, ByteArray.size]
  have h2 : s.data.toList.length = s.size := by simp
  rw [h1, rotL, List.length_append, List.length_drop, List.length_take]
  omega
theorem rotS_list (s : ByteArray) (i : Nat) : (rotS s i).data.toList = rotL s i := by simp [rotS]
/-- whether the rotation by i is good -/
def rgB (s : ByteArray) (k : Int) (i : Nat) : Bool := !(fbB (mg (rotS s i) k) 1 (s.size + 1))
def rgs (s : ByteArray) (k : Int) : Nat → List Int
  | 0 => []
  | i + 1 => if rgB s k i then rgs s k i ++ [(i : Int)] else rgs s k i
theorem rgs_length (s : ByteArray) (k : Int) : ∀ i, (rgs s k i).length ≤ i
  | 0 => by simp [rgs]
  | i + 1 => by
    have := rgs_length s k i
    rw [rgs]
    split
    · simp; omega
    · omega
/-- good up to here -/
def okTo (f : Nat → Int) (j : Nat) : Bool := !(fbB f 1 (j + 1))
theorem okTo_0 (f : Nat → Int) : okTo f 0 = true := by
  have : fb f 1 1 = -1 := fb_go (n := 0) rfl (.inl rfl)
  unfold okTo
  rw [fbB_no this]
  rfl
theorem okTo_succ (f : Nat → Int) (j : Nat) : okTo f (j + 1) = (okTo f j && decide (0 < f (j + 1))) := by
  unfold okTo
  have hb := fb_bd f 1 (j + 1)
  by_cases h : fb f 1 (j + 1) = -1
  · rw [fbB_no h]
    by_cases h2 : f (j + 1) < 1
    · have := fb_hit (n := j + 1) h (by omega) h2
      rw [fbB_yes this, decide_eq_false (by omega)]
      rfl
    · have := fb_go (n := j + 1) h (.inr h2)
      rw [fbB_no this, decide_eq_true (by omega)]
      rfl
  · have h3 : fbB f 1 (j + 1) = true := by unfold fbB; rw [decide_eq_true_iff]; omega
    have h4 := fb_keep (f := f) (least := 1) (n := j + 1) (by omega)
    have h5 : fbB f 1 (j + 1 + 1) = true := by unfold fbB; rw [decide_eq_true_iff, h4]; omega
    rw [h3, h5]
    rfl
def raOk (s : ByteArray) (k : Int) : Bool := pathB s && (decide (0 ≤ k) && decide (k ≤ 40))
def raV (s : ByteArray) (k : Int) : List Int := if raOk s k then rgs s k s.size else []
theorem raV_len (s : ByteArray) (k : Int) : (raV s k).length ≤ 1048577 := by
  unfold raV
  split
  · rename_i h
    unfold raOk at h
    rw [Bool.and_eq_true] at h
    have h1 := ((pathB_iff s).1 h.1).1
    have h2 := rgs_length s k s.size
    omega
  · simp
end Go.Proofs.Ytachijliaedndaa
