/- Pack 17 of what FnRecordsTold needs: Counts, Scalars. -/
import Derived.Test.YtachijliaedndaaKFnRecordsTold16
/- CountPaths; paChoose, the numbers of ways to choose. -/
namespace Go.Proofs.Ytachijliaedndaa
open Go.RowKit
theorem cntOk_yes {u d : Int} (h : 0 ≤ u ∧ 0 ≤ d ∧ u + d ≤ 40) : cntOk u d = true := by simp [cntOk, h]
theorem cntOk_no {u d : Int} (h : ¬ (0 ≤ u ∧ 0 ≤ d ∧ u + d ≤ 40)) : cntOk u d = false := by
  rw [Bool.eq_false_iff]
  intro e
  simp [cntOk] at e
  exact h ⟨e.1.1, e.1.2, e.2⟩
theorem cntV_yes {u d : Nat} (h : u + d ≤ 40) : cntV u d = (chs (d + u) u : Nat) := by
  unfold cntV
  rw [cntOk_yes (by omega), if_pos rfl]
  have := chZ_nat (u + d) u
  rw [Nat.add_comm d u, ← this]
  rfl
theorem cntV_no {u d : Int} (h : ¬ (0 ≤ u ∧ 0 ≤ d ∧ u + d ≤ 40)) : cntV u d = 0 := by unfold cntV; rw [cntOk_no h]; rfl
set_option maxHeartbeats 400000 in
theorem count_no (u d : Int) (w : World) (h : ¬ (0 ≤ u ∧ 0 ≤ d ∧ u + d ≤ 40)) :
    Calls Try.prog 71 #[.int .i64 u, .int .i64 d] w fun e w' => e = .returned (.tuple #[.int .i64 0, .bool false]) ∧ w = w' := by
  by_cases h1 : u < 0
  · go_enter Try.func71, Try.ntmps71
    go_wp2
    go_ret2
    exact ⟨rfl, rfl⟩
  · by_cases h2 : d < 0
    · go_enter Try.func71, Try.ntmps71
      go_wp2
      go_ret2
      exact ⟨rfl, rfl⟩
    · by_cases h3 : 40 < u
      · go_enter Try.func71, Try.ntmps71
        go_wp2
        go_ret2
        exact ⟨rfl, rfl⟩
      · have h4 : 40 - u < d := by omega
        clear h
        go_enter Try.func71, Try.ntmps71
        go_wp2
        go_ret2
        exact ⟨rfl, rfl⟩
set_option maxHeartbeats 400000 in
theorem count_yes (u d : Nat) (w : World) (h : u + d ≤ 40) :
    Calls Try.prog 71 #[.int .i64 u, .int .i64 d] w fun e w' => e = .returned (.tuple #[.int .i64 (chs (d + u) u : Nat), .bool true]) ∧ w = w' := by
  have h1 : ¬ (u : Int) < 0 := by omega
  have h2 : ¬ (d : Int) < 0 := by omega
  have h3 : ¬ 40 < (u : Int) := by omega
  have h4 : ¬ 40 - (u : Int) < d := by omega
  go_enter Try.func71, Try.ntmps71
  go_wp2
  go_loop [6, 7] (fun c i => ∃ k : Nat, k ≤ u ∧ i = .int .i64 ((k : Int) + 1) ∧ c = .int .i64 (chs (d + k) k : Nat)) (fun _ i => u + 1 - (intOf i).toNat)
  case atStart => exact ⟨0, by omega, rfl, by rw [chs_zero]; rfl⟩
  case round =>
    obtain ⟨k, hk, rfl, rfl⟩ := hrel
    by_cases hlt : k < u
    · have hs := chs_small40 (d + k) k (by omega)
      have HM := Lib.hid (chs_mul d k)
      generalize hc : chs (d + k) k = c at *
      have HC := Lib.hid hc
      clear hc
      have hmul : 0 ≤ (c : Int) * ((d : Int) + ((k : Int) + 1)) ∧ (c : Int) * ((d : Int) + ((k : Int) + 1)) ≤ 9223372036854775807 := by
        have e : (c : Int) * ((d : Int) + ((k : Int) + 1)) = ((c * (d + (k + 1)) : Nat) : Int) := by simp
        rw [e]
        have := Nat.mul_le_mul hs (show d + (k + 1) ≤ 41 by omega)
        omega
      go_wp2
      go_round
      case rel => exact ⟨k + 1, by omega, by go_num, by rw [← HM.out]; go_num⟩
      case measure => simp [intOf]; omega
    · go_wp2
      obtain rfl : k = u := by omega
      go_ret2
      exact ⟨rfl, rfl⟩
theorem count_ret (u d : Int) (w : World) :
    Calls Try.prog 71 #[.int .i64 u, .int .i64 d] w fun e w' => e = .returned (.tuple #[.int .i64 (cntV u d), .bool (cntOk u d)]) ∧ w = w' := by
  by_cases h : 0 ≤ u ∧ 0 ≤ d ∧ u + d ≤ 40
  · obtain ⟨hu0, hd0, hs⟩ := h
    obtain ⟨a, rfl⟩ := Int.eq_ofNat_of_zero_le hu0
    obtain ⟨b, rfl⟩ := Int.eq_ofNat_of_zero_le hd0
    rw [cntOk_yes ⟨hu0, hd0, hs⟩, cntV_yes (by omega)]
    exact count_yes a b w (by omega)
  · rw [cntOk_no h, cntV_no h]
    exact count_no u d w h
end Go.Proofs.Ytachijliaedndaa

/- The functions that hand back one number of a path: ends, least and greatest heights, sums. -/
namespace Go.Proofs.Ytachijliaedndaa
open Go.RowKit

theorem hts_at {s : ByteArray} {w : World} {B g n c : Nat} (h : IRow w B (.slice (some ⟨g, 0, none⟩) n c) (hts s)) (j : Nat) (hj : j ≤ s.size) : w.cell? ⟨g, j, none⟩ = some (.int .i64 (hAt s j)) := by
  have := h.cell (j := j) (by rw [hts_length]; omega)
  rw [List.getD_eq_getElem?_getD, hts_get s j hj] at this
  exact this

/-! ### the end -/
def endV (s : ByteArray) : Int := if pathB s then hAt s s.size else 0
set_option maxHeartbeats 400000 in
theorem endHeight_ret (s : ByteArray) (w : World) (hs : s.size ≤ maxLen) : Calls Try.prog 20 #[.string s] w (Ret w (.tuple #[.int .i64 (endV s), .bool (pathB s)])) := by
  unfold endV
  rcases Bool.eq_false_or_eq_true (pathB s) with hp | hp
  · rw [hp, if_pos rfl]
    have HP := Lib.hid hp
    have h40 := ((pathB_iff s).1 hp).1
    clear hp
    go_enter Try.func20, Try.ntmps20
    go_wp2_with ((go_at_call 19; refine (heights_any s _ hs HP.out).mono ?_; rintro e w1 ⟨v, rfl, hr, hb⟩; obtain ⟨g, c, rfl, hgB, hgl⟩ := hr.form' (hts_length s) (by omega)); have hc := hts_at hr s.size (Nat.le_refl _))
    go_ret2
    exact ⟨rfl, hb⟩
  · rw [hp]
    go_enter Try.func20, Try.ntmps20
    go_wp2_with (go_at_call 19; refine (heights_no s _ hs hp).mono ?_; rintro e w' ⟨rfl, rfl⟩)
    go_ret2
    exact ⟨rfl, Below.refl _ _⟩
set_option maxHeartbeats 400000 in
theorem paEnd_ret (s : ByteArray) (w : World) (hp : pathB s = true) : Calls Try.prog 156 #[.string s] w (Ret w (.int .i64 (hAt s s.size))) := by
  have HP := Lib.hid hp
  have h40 := ((pathB_iff s).1 hp).1
  clear hp
  go_enter Try.func156, Try.ntmps156
  go_wp2_with ((go_at_call 150; refine (paHeights_any s _ HP.out).mono ?_; rintro e w1 ⟨v, rfl, hr, hb⟩; obtain ⟨g, c, rfl, hgB, hgl⟩ := hr.form' (hts_length s) (by omega)); have hc := hts_at hr s.size (Nat.le_refl _))
  go_ret
  exact ⟨rfl, hb⟩
/-! ### the least, the greatest -/
def minTo (s : ByteArray) : Nat → Int
  | 0 => 0
  | k + 1 => if hAt s (k + 1) < minTo s k then hAt s (k + 1) else minTo s k
def maxTo (s : ByteArray) : Nat → Int
  | 0 => 0
  | k + 1 => if maxTo s k < hAt s (k + 1) then hAt s (k + 1) else maxTo s k
theorem minTo_bd (s : ByteArray) : ∀ k, k ≤ s.size → -(k : Int) ≤ minTo s k ∧ minTo s k ≤ 0 := by
  intro k
  induction k with
  | zero => intro _; simp [minTo]
  | succ k ih =>
    intro h
    have h1 := ih (by omega)
    have h2 := hAt_bd s (k + 1) h
    unfold minTo
    split <;> omega
set_option maxHeartbeats 400000 in
theorem min_ret (s : ByteArray) (w : World) (g c : Nat) (h40 : s.size ≤ 40) (B : Nat) (hr : IRow w B (.slice (some ⟨g, 0, none⟩) (s.size + 1) c) (hts s)) :
    Calls Try.prog 245 #[.slice (some ⟨g, 0, none⟩) (s.size + 1) c] w fun e w' => e = .returned (.int .i64 (minTo s s.size)) ∧ w = w' := by
  have hc0 := hts_at hr 0 (by omega)
  have i0 : ¬ (s.size : Int) + 1 < 1 := by omega
  go_enter Try.func245, Try.ntmps245
  go_wp2
  go_loop [3, 4] (fun u i => ∃ k : Nat, k ≤ s.size ∧ i = .int .i64 ((k : Int) + 1) ∧ u = .int .i64 (minTo s k)) (fun _ i => s.size + 1 - (intOf i).toNat)
  case atStart => exact ⟨0, Nat.zero_le _, rfl, by rw [hAt_zero]; rfl⟩
  case round =>
    obtain ⟨k, hk, rfl, rfl⟩ := hrel
    by_cases hlt : k < s.size
    · have hc := hts_at hr (k + 1) (by omega)
      go_wp2
      go_round
      case rel => exact ⟨k + 1, by omega, by go_num, rfl⟩
      case measure => simp [intOf]; omega
    · go_wp2
      obtain rfl : k = s.size := by omega
      go_ret
      exact ⟨rfl, rfl⟩

def lowV (s : ByteArray) : Int := if pathB s then minTo s s.size else 0
set_option maxHeartbeats 400000 in
theorem lowestOf_ret (s : ByteArray) (w : World) (hs : s.size ≤ maxLen) : Calls Try.prog 158 #[.string s] w (Ret w (.tuple #[.int .i64 (lowV s), .bool (pathB s)])) := by
  unfold lowV
  rcases Bool.eq_false_or_eq_true (pathB s) with hp | hp
  · rw [hp, if_pos rfl]
    have HP := Lib.hid hp
    have h40 := ((pathB_iff s).1 hp).1
    clear hp
    go_enter Try.func158, Try.ntmps158
    go_wp2_with (first | (go_at_call 19; refine (heights_any s _ hs HP.out).mono ?_; rintro e w1 ⟨v, rfl, hr, hb⟩; obtain ⟨g, c, rfl, hgB, hgl⟩ := hr.form' (hts_length s) (by omega)) | (go_at_call 245; refine (min_ret s _ g c h40 _ hr).mono ?_; rintro e w' ⟨rfl, rfl⟩))
    go_ret2
    exact ⟨rfl, hb⟩
  · rw [hp]
    go_enter Try.func158, Try.ntmps158
    go_wp2_with (go_at_call 19; refine (heights_no s _ hs hp).mono ?_; rintro e w' ⟨rfl, rfl⟩)
    go_ret2
    exact ⟨rfl, Below.refl _ _⟩
set_option maxHeartbeats 400000 in
theorem paLow_ret (s : ByteArray) (w : World) (hp : pathB s = true) : Calls Try.prog 157 #[.string s] w (Ret w (.int .i64 (minTo s s.size))) := by
  have HP := Lib.hid hp
  have h40 := ((pathB_iff s).1 hp).1
  clear hp
  go_enter Try.func157, Try.ntmps157
  go_wp2_with (go_at_call 150; refine (paHeights_any s _ HP.out).mono ?_; rintro e w1 ⟨v, rfl, hr, hb⟩; obtain ⟨g, c, rfl, hgB, hgl⟩ := hr.form' (hts_length s) (by omega))
  go_loop [3, 9] (fun u i => ∃ k : Nat, k ≤ s.size + 1 ∧ i = .int .i64 (k : Int) ∧ u = .int .i64 (minTo s (k - 1))) (fun _ i => s.size + 1 - (intOf i).toNat)
  case atStart => exact ⟨0, Nat.zero_le _, rfl, rfl⟩
  case round =>
    obtain ⟨k, hk, rfl, rfl⟩ := hrel
    by_cases hlt : k < s.size + 1
    · have hc := hts_at hr k (by omega)
      go_wp2_with (go_at_call 229; refine (least_any _ _ _).mono ?_; rintro e w' ⟨rfl, rfl⟩)
      go_round
      case rel => exact ⟨k + 1, by omega, by go_num, by
        cases k with
        | zero => simp [hAt_zero, minTo]
        | succ k => rfl⟩
      case measure => simp [intOf]; omega
    · go_wp2
      obtain rfl : k = s.size + 1 := by omega
      go_ret
      exact ⟨rfl, hb⟩
theorem lowV_yes {s : ByteArray} (h : pathB s = true) : lowV s = minTo s s.size := by unfold lowV; rw [if_pos h]
theorem lowV_no {s : ByteArray} (h : pathB s = false) : lowV s = 0 := by unfold lowV; rw [h]; rfl
theorem endV_yes {s : ByteArray} (h : pathB s = true) : endV s = hAt s s.size := by unfold endV; rw [if_pos h]
theorem endV_no {s : ByteArray} (h : pathB s = false) : endV s = 0 := by unfold endV; rw [h]; rfl
end Go.Proofs.Ytachijliaedndaa
