/- Pack 18 of what FnExactAllPairsApart needs: Scalars, Choose. -/
import Derived.Test.YtnlmjeakdjmohaaKFnExactAllPairsApart17
/- The functions that hand back one number of a path: ends, least and greatest heights, sums. -/
namespace Go.Proofs.Ytnlmjeakdjmohaa
open Go.RowKit

theorem hts_at {s : ByteArray} {w : World} {B g n c : Nat} (h : IRow w B (.slice (some ⟨g, 0, none⟩) n c) (hts s)) (j : Nat) (hj : j ≤ s.size) : w.cell? ⟨g, j, none⟩ = some (.int .i64 (hAt s j)) := by
  have := h.cell (j := j) (by rw [hts_length]; omega)
  rw [List.getD_eq_getElem?_getD, hts_get s j hj] at this
  exact this

/-! ### the end -/
def endV (s : ByteArray) : Int := if pathB s then hAt s s.size else 0
set_option maxHeartbeats 400000 in
theorem endHeight_ret (s : ByteArray) (w : World) (hs : s.size ≤ maxLen) : Calls Try.prog 141 #[.string s] w (Ret w (.tuple #[.int .i64 (endV s), .bool (pathB s)])) := by
  unfold endV
  rcases Bool.eq_false_or_eq_true (pathB s) with hp | hp
  · rw [hp, if_pos rfl]
    have HP := Lib.hid hp
    have h40 := ((pathB_iff s).1 hp).1
    clear hp
    go_enter Try.func141, Try.ntmps141
    go_wp2_with ((go_at_call 100; refine (heights_any s _ hs HP.out).mono ?_; rintro e w1 ⟨v, rfl, hr, hb⟩; obtain ⟨g, c, rfl, hgB, hgl⟩ := hr.form' (hts_length s) (by omega)); have hc := hts_at hr s.size (Nat.le_refl _))
    go_ret2
    exact ⟨rfl, hb⟩
  · rw [hp]
    go_enter Try.func141, Try.ntmps141
    go_wp2_with (go_at_call 100; refine (heights_no s _ hs hp).mono ?_; rintro e w' ⟨rfl, rfl⟩)
    go_ret2
    exact ⟨rfl, Below.refl _ _⟩
set_option maxHeartbeats 400000 in
theorem paEnd_ret (s : ByteArray) (w : World) (hp : pathB s = true) : Calls Try.prog 107 #[.string s] w (Ret w (.int .i64 (hAt s s.size))) := by
  have HP := Lib.hid hp
  have h40 := ((pathB_iff s).1 hp).1
  clear hp
  go_enter Try.func107, Try.ntmps107
  go_wp2_with ((go_at_call 99; refine (paHeights_any s _ HP.out).mono ?_; rintro e w1 ⟨v, rfl, hr, hb⟩; obtain ⟨g, c, rfl, hgB, hgl⟩ := hr.form' (hts_length s) (by omega)); have hc := hts_at hr s.size (Nat.le_refl _))
  go_ret
  exact ⟨rfl, hb⟩
/-! ### the least, the greatest -/
def minTo (s : ByteArray) : Nat → Int
  | 0 => 0
  | k + 1 => if hAt s (k + 1) < minTo s k then hAt s (k + 1) else minTo s k
def maxTo (s : ByteArray) : Nat → Int
  | 0 => 0
  | k + 1 => if maxTo s k < hAt s (k + 1) then hAt s (k + 1) else maxTo s k
theorem minTo_bd (s : ByteArray) : ∀ k, k ≤ s.size → -(k : Int) ≤ minTo s k ∧ minTo s k ≤ 0 := by
  intro k
  induction k with
  | zero => intro _; simp [minTo]
  | succ k ih =>
    intro h
    have h1 := ih (by omega)
    have h2 := hAt_bd s (k + 1) h
    unfold minTo
    split <;> omega
set_option maxHeartbeats 400000 in
theorem min_ret (s : ByteArray) (w : World) (g c : Nat) (h40 : s.size ≤ 40) (B : Nat) (hr : IRow w B (.slice (some ⟨g, 0, none⟩) (s.size + 1) c) (hts s)) :
    Calls Try.prog 155 #[.slice (some ⟨g, 0, none⟩) (s.size + 1) c] w fun e w' => e = .returned (.int .i64 (minTo s s.size)) ∧ w = w' := by
  have hc0 := hts_at hr 0 (by omega)
  have i0 : ¬ (s.size : Int) + 1 < 1 := by omega
  go_enter Try.func155, Try.ntmps155
  go_wp2
  go_loop [3, 4] (fun u i => ∃ k : Nat, k ≤ s.size ∧ i = .int .i64 ((k : Int) + 1) ∧ u = .int .i64 (minTo s k)) (fun _ i => s.size + 1 - (intOf i).toNat)
  case atStart => exact ⟨0, Nat.zero_le _, rfl, by rw [hAt_zero]; rfl⟩
  case round =>
    obtain ⟨k, hk, rfl, rfl⟩ := hrel
    by_cases hlt : k < s.size
    · have hc := hts_at hr (k + 1) (by omega)
      go_wp2
      go_round
      case rel => exact ⟨k + 1, by omega, by go_num, rfl⟩
      case measure => simp [intOf]; omega
    · go_wp2
      obtain rfl : k = s.size := by omega
      go_ret
      exact ⟨rfl, rfl⟩

def lowV (s : ByteArray) : Int := if pathB s then minTo s s.size else 0
set_option maxHeartbeats 400000 in
theorem lowestOf_ret (s : ByteArray) (w : World) (hs : s.size ≤ maxLen) : Calls Try.prog 140 #[.string s] w (Ret w (.tuple #[.int .i64 (lowV s), .bool (pathB s)])) := by
  unfold lowV
  rcases Bool.eq_false_or_eq_true (pathB s) with hp | hp
  · rw [hp, if_pos rfl]
    have HP := Lib.hid hp
    have h40 := ((pathB_iff s).1 hp).1
    clear hp
    go_enter Try.func140, Try.ntmps140
    go_wp2_with (first | (go_at_call 100; refine (heights_any s _ hs HP.out).mono ?_; rintro e w1 ⟨v, rfl, hr, hb⟩; obtain ⟨g, c, rfl, hgB, hgl⟩ := hr.form' (hts_length s) (by omega)) | (go_at_call 155; refine (min_ret s _ g c h40 _ hr).mono ?_; rintro e w' ⟨rfl, rfl⟩))
    go_ret2
    exact ⟨rfl, hb⟩
  · rw [hp]
    go_enter Try.func140, Try.ntmps140
    go_wp2_with (go_at_call 100; refine (heights_no s _ hs hp).mono ?_; rintro e w' ⟨rfl, rfl⟩)
    go_ret2
    exact ⟨rfl, Below.refl _ _⟩
set_option maxHeartbeats 400000 in
theorem paLow_ret (s : ByteArray) (w : World) (hp : pathB s = true) : Calls Try.prog 106 #[.string s] w (Ret w (.int .i64 (minTo s s.size))) := by
  have HP := Lib.hid hp
  have h40 := ((pathB_iff s).1 hp).1
  clear hp
  go_enter Try.func106, Try.ntmps106
  go_wp2_with (go_at_call 99; refine (paHeights_any s _ HP.out).mono ?_; rintro e w1 ⟨v, rfl, hr, hb⟩; obtain ⟨g, c, rfl, hgB, hgl⟩ := hr.form' (hts_length s) (by omega))
  go_loop [3, 9] (fun u i => ∃ k : Nat, k ≤ s.size + 1 ∧ i = .int .i64 (k : Int) ∧ u = .int .i64 (minTo s (k - 1))) (fun _ i => s.size + 1 - (intOf i).toNat)
  case atStart => exact ⟨0, Nat.zero_le _, rfl, rfl⟩
  case round =>
    obtain ⟨k, hk, rfl, rfl⟩ := hrel
    by_cases hlt : k < s.size + 1
    · have hc := hts_at hr k (by omega)
      go_wp2_with (go_at_call 129; refine (least_any _ _ _).mono ?_; rintro e w' ⟨rfl, rfl⟩)
      go_round
      case rel => exact ⟨k + 1, by omega, by go_num, by
        cases k with
        | zero => simp [hAt_zero, minTo]
        | succ k => rfl⟩
      case measure => simp [intOf]; omega
    · go_wp2
      obtain rfl : k = s.size + 1 := by omega
      go_ret
      exact ⟨rfl, hb⟩
theorem lowV_yes {s : ByteArray} (h : pathB s = true) : lowV s = minTo s s.size := by unfold lowV; rw [if_pos h]
theorem lowV_no {s : ByteArray} (h : pathB s = false) : lowV s = 0 := by unfold lowV; rw [h]; rfl
theorem endV_yes {s : ByteArray} (h : pathB s = true) : endV s = hAt s s.size := by unfold endV; rw [if_pos h]
theorem endV_no {s : ByteArray} (h : pathB s = false) : endV s = 0 := by unfold endV; rw [h]; rfl
end Go.Proofs.Ytnlmjeakdjmohaa

/- paChoose, paSteps, spec.CountPaths. -/
namespace Go.Proofs.Ytnlmjeakdjmohaa
set_option maxRecDepth 100000
open Go.RowKit
/-- the row of the numbers for i, entries from j on already those for i + 1 -/
def chRow (k i j : Nat) : List Int := (List.range (k + 1)).map fun x => ((if j < x then chs (i + 1) x else chs i x : Nat) : Int)
theorem chRow_length (k i j : Nat) : (chRow k i j).length = k + 1 := by simp [chRow]
theorem chRow_get (k i j x : Nat) (h : x ≤ k) : (chRow k i j).getD x 0 = ((if j < x then chs (i + 1) x else chs i x : Nat) : Int) := by
  unfold chRow; rw [List.getD_eq_getElem?_getD, List.getElem?_map, List.getElem?_range (by omega)]; rfl
theorem chRow_start (k : Nat) : (List.replicate (k + 1) (0 : Int)).set 0 1 = chRow k 0 k := by
  apply List.ext_getElem
  · simp [chRow]
  · intro x h1 h2
    simp [chRow] at h2 ⊢
    rw [List.getElem_set]
    by_cases e : 0 = x
    · subst e; simp [chs_zero]
    · rw [if_neg e, if_neg (by omega), List.getElem_replicate, chs_lt 0 x (by omega)]; rfl
theorem chRow_step (k i j : Nat) (h : j + 1 ≤ k) : (chRow k i (j + 1)).set (j + 1) ((chs i (j + 1) : Nat) + (chs i j : Nat) : Int) = chRow k i j := by
  apply List.ext_getElem
  · simp [chRow]
  · intro x h1 h2
    simp [chRow] at h2 ⊢
    rw [List.getElem_set]
    by_cases e : j + 1 = x
    · subst e
      rw [if_pos rfl, if_pos (by omega), chs_succ]
      omega
    · rw [if_neg e, List.getElem_map, List.getElem_range]
      by_cases c : j + 1 < x
      · rw [if_pos c, if_pos (by omega)]
      · rw [if_neg c, if_neg (by omega)]
theorem chRow_next (k i : Nat) : chRow k i 0 = chRow k (i + 1) k := by
  apply List.ext_getElem
  · simp [chRow]
  · intro x h1 h2
    simp [chRow] at h2 ⊢
    rw [if_neg (show ¬ k < x by omega)]
    by_cases c : 0 < x
    · rw [if_pos c]
    · have : x = 0 := by omega
      subst this
      simp [chs_zero]
theorem chRow_cut (k i : Nat) : chRow k i k = chRow k i (min (i + 1) k) := by
  apply List.ext_getElem
  · simp [chRow]
  · intro x h1 h2
    simp [chRow] at h2 ⊢
    rw [if_neg (show ¬ k < x by omega)]
    by_cases c : min (i + 1) k < x
    · rw [if_pos c, chs_lt i x (by omega), chs_lt (i + 1) x (by omega)]
    · rw [if_neg c]
set_option maxHeartbeats 400000 in
theorem choose_no (n k : Int) (w : World) (h : k < 0 ∨ n < k) : Calls Try.prog 86 #[.int .i64 n, .int .i64 k] w (Ret w (.int .i64 0)) := by
  by_cases h1 : k < 0
  · clear h
    go_enter Try.func86, Try.ntmps86
    go_wp2
    go_ret
    exact ⟨rfl, Below.refl _ _⟩
  · have h2 : n < k := by omega
    clear h
    go_enter Try.func86, Try.ntmps86
    go_wp2
    go_ret
    exact ⟨rfl, Below.refl _ _⟩
set_option maxHeartbeats 1000000 in
theorem choose_yes (n k : Nat) (w : World) (hk : k ≤ n) (hn : n ≤ 60) : Calls Try.prog 86 #[.int .i64 n, .int .i64 k] w (Ret w (.int .i64 (chs n k : Nat))) := by
  have h1 : ¬ (k : Int) < 0 := by omega
  have h2 : ¬ (n : Int) < k := by omega
  obtain ⟨i0, hi, hz0, hz1, hz2⟩ := info_parts intInfo
  go_enter Try.func86, Try.ntmps86
  go_wp2_with (refine wpList_make_full _ rfl (.tmp 16) (.tmp 16) 44 rfl w.heap.size 3 i0 (.int .i64 0) 1 Try.underlying44 hi hz0 hz1 .i64 .i64 _ _ (k + 1) rfl rfl (by omega) (by omega) (by rw [hz2]; omega) (by unfold maxLen; omega) (Nat.le_refl _) ?_; intro w1 hown1 hgrow1; have hrow1 : IRow w1 w.heap.size (.slice (some ⟨w.heap.size, 0, none⟩) (k + 1) (k + 1)) (List.replicate (k + 1) 0) := (IRow.of_own hown1 (by simp) (by rw [madeOne _ rfl]; simp)); have hb1 : Below w.heap.size w w1 := ((Below.refl _ _).grown hgrow1 (Nat.le_refl _) (by simp)); have hc1 := hrow1.cell (j := 0) (by simp); have hf1 := hrow1.free 0; have HST := Lib.hid (hrow1.set 0 1); clear hown1 hgrow1)
  have hb2 : Below w.heap.size w (w1.setCell ⟨w.heap.size, 0, none⟩ (.int .i64 1)) := hb1.setCell (Nat.le_refl _) _
  have hst := HST.out.1
  rw [chRow_start] at hst
  clear hc1 hf1 HST hb1 hrow1
  generalize w1.setCell ⟨w.heap.size, 0, none⟩ (.int .i64 1) = w2 at *
  go_loopw [6] (fun c wr => ∃ i : Nat, i ≤ n ∧ c = .int .i64 ((i : Int) + 1) ∧ IRow wr w.heap.size (.slice (some ⟨w.heap.size, 0, none⟩) (k + 1) (k + 1)) (chRow k i k) ∧ Below w.heap.size w wr) (fun c _ => n + 1 - (intOf c).toNat)
  case atStart => exact ⟨0, by omega, rfl, hst, hb2⟩
  case round =>
    obtain ⟨i, hin, rfl, hrow, hb⟩ := hrel
    clear hst hb2
    by_cases hlt : i < n
    · obtain ⟨wo, rfl⟩ : ∃ wo : World, wo = wr := ⟨_, rfl⟩
      have HE : Hid ((if (k : Int) < (i : Int) + 1 then (k : Int) else (i : Int) + 1) = ((min (i + 1) k : Nat) : Int)) := by unfold Hid; split <;> omega
      obtain ⟨m0, hm0⟩ : ∃ m0, m0 = min (i + 1) k := ⟨_, rfl⟩
      rw [chRow_cut, ← hm0] at hrow
      rw [← hm0] at HE
      have hmk : m0 ≤ k := by omega
      clear hm0
      go_wp2_with (go_at_call 129; refine (least_any _ _ _).mono ?_; rintro e w' ⟨rfl, rfl⟩; rw [HE.out])
      go_loopw [7] (fun j wr => ∃ m : Nat, m ≤ k ∧ j = .int .i64 (m : Int) ∧ IRow wr w.heap.size (.slice (some ⟨w.heap.size, 0, none⟩) (k + 1) (k + 1)) (chRow k i m) ∧ Below w.heap.size w wr) (fun j _ => (intOf j).toNat)
      case atStart => exact ⟨m0, hmk, rfl, hrow, hb⟩
      case round =>
        obtain ⟨m, hm, rfl, hrow2, hb2⟩ := hrel
        clear hrow hb
        by_cases hpos : 0 < m
        · obtain ⟨j, rfl⟩ : ∃ j, m = j + 1 := ⟨m - 1, by omega⟩
          have e1 := hrow2.cell (j := j + 1) (by rw [chRow_length]; omega)
          have e2 := hrow2.cell (j := j) (by rw [chRow_length]; omega)
          rw [chRow_get _ _ _ _ (by omega), if_neg (by omega)] at e1 e2
          have f1 := hrow2.free (j + 1)
          have b1 := chs_small i (j + 1) (by omega)
          have b2 := chs_small i j (by omega)
          have HST := Lib.hid (hrow2.set (j + 1) ((chs i (j + 1) : Nat) + (chs i j : Nat) : Int)).1
          rw [chRow_step k i j (by omega)] at HST
          rw [show ((j + 1 : Nat) : Int) = (j : Int) + 1 from by omega]
          have i1 : (j : Int) + 1 < (k : Int) + 1 := by omega
          have i2 : (j : Int) < (k : Int) + 1 := by omega
          have i3 : 0 ≤ (j : Int) + 1 := by omega
          go_wp2
          go_region
          go_wp2
          go_roundw
          case rel => exact ⟨j, by omega, by go_num, HST.drew, (hb2.setCell (Nat.le_refl _) _).drew⟩
          case measure => first | (simp [intOf]; done) | (simp [intOf]; omega)
        · obtain rfl : m = 0 := by omega
          rw [chRow_next] at hrow2
          go_wp2
          go_roundw
          case rel => exact ⟨i + 1, by omega, by go_num, hrow2, hb2⟩
          case measure => simp [intOf]; omega
    · obtain rfl : i = n := by omega
      have e1 := hrow.cell (j := k) (by rw [chRow_length]; omega)
      rw [chRow_get _ _ _ _ (by omega), if_neg (by omega)] at e1
      go_wp2
      go_ret
      exact ⟨rfl, hb⟩
theorem choose_ret (n k : Int) (w : World) (hn : n ≤ 60) : Calls Try.prog 86 #[.int .i64 n, .int .i64 k] w (Ret w (.int .i64 (chZ n k))) := by
  by_cases h : k < 0 ∨ n < k
  · rw [chZ_no h]; exact choose_no n k w h
  · obtain ⟨a, rfl⟩ := Int.eq_ofNat_of_zero_le (show 0 ≤ n by omega)
    obtain ⟨b, rfl⟩ := Int.eq_ofNat_of_zero_le (show 0 ≤ k by omega)
    have := chZ_nat a b
    rw [this]
    exact choose_yes a b w (by omega) (by omega)
theorem countW_ret (u d : Int) (w : World) : Calls Try.prog 88 #[.int .i64 u, .int .i64 d] w (Ret w (.tuple #[.int .i64 (cntV u d), .bool (cntOk u d)])) :=
  (count_ret u d w).mono fun _ _ ⟨h1, h2⟩ => ⟨h1, h2 ▸ Below.refl _ _⟩
end Go.Proofs.Ytnlmjeakdjmohaa
