/- Pack 26 of what FnExactFirstApart needs: LeastMost, Scalars. -/
import Derived.Test.YtnlmjeakdjmohaaKFnExactFirstApart25
/- l1Least, l1Most. -/
namespace Go.Proofs.Ytnlmjeakdjmohaa
open Go.RowKit
theorem least_any (a b : Int) (w : World) : Calls Try.prog 129 #[.int .i64 a, .int .i64 b] w fun e w' => e = .returned (.int .i64 (if b < a then b else a)) ∧ w = w' := by
  by_cases h : a < b
  · rw [if_neg (by omega)]
    go_enter Try.func129, Try.ntmps129
    go_wp2
    go_ret
    exact ⟨rfl, rfl⟩
  · have e : (if b < a then b else a) = b := by split <;> omega
    rw [e]
    clear e
    go_enter Try.func129, Try.ntmps129
    go_wp2
    go_ret
    exact ⟨rfl, rfl⟩
end Go.Proofs.Ytnlmjeakdjmohaa

/- The functions that hand back one number of a path: ends, least and greatest heights, sums. -/
namespace Go.Proofs.Ytnlmjeakdjmohaa
open Go.RowKit

theorem hts_at {s : ByteArray} {w : World} {B g n c : Nat} (h : IRow w B (.slice (some ⟨g, 0, none⟩) n c) (hts s)) (j : Nat) (hj : j ≤ s.size) : w.cell? ⟨g, j, none⟩ = some (.int .i64 (hAt s j)) := by
  have := h.cell (j := j) (by rw [hts_length]; omega)
  rw [List.getD_eq_getElem?_getD, hts_get s j hj] at this
  exact this

/-! ### the end -/
def endV (s : ByteArray) : Int := if pathB s then hAt s s.size else 0
set_option maxHeartbeats 400000 in
theorem endHeight_ret (s : ByteArray) (w : World) (hs : s.size ≤ maxLen) : Calls Try.prog 141 #[.string s] w (Ret w (.tuple #[.int .i64 (endV s), .bool (pathB s)])) := by
  unfold endV
  rcases Bool.eq_false_or_eq_true (pathB s) with hp | hp
  · rw [hp, if_pos rfl]
    have HP := Lib.hid hp
    have h40 := ((pathB_iff s).1 hp).1
    clear hp
    go_enter Try.func141, Try.ntmps141
    go_wp2_with ((go_at_call 100; refine (heights_any s _ hs HP.out).mono ?_; rintro e w1 ⟨v, rfl, hr, hb⟩; obtain ⟨g, c, rfl, hgB, hgl⟩ := hr.form' (hts_length s) (by omega)); have hc := hts_at hr s.size (Nat.le_refl _))
    go_ret2
    exact ⟨rfl, hb⟩
  · rw [hp]
    go_enter Try.func141, Try.ntmps141
    go_wp2_with (go_at_call 100; refine (heights_no s _ hs hp).mono ?_; rintro e w' ⟨rfl, rfl⟩)
    go_ret2
    exact ⟨rfl, Below.refl _ _⟩
set_option maxHeartbeats 400000 in
theorem paEnd_ret (s : ByteArray) (w : World) (hp : pathB s = true) : Calls Try.prog 107 #[.string s] w (Ret w (.int .i64 (hAt s s.size))) := by
  have HP := Lib.hid hp
  have h40 := ((pathB_iff s).1 hp).1
  clear hp
  go_enter Try.func107, Try.ntmps107
  go_wp2_with ((go_at_call 99; refine (paHeights_any s _ HP.out).mono ?_; rintro e w1 ⟨v, rfl, hr, hb⟩; obtain ⟨g, c, rfl, hgB, hgl⟩ := hr.form' (hts_length s) (by omega)); have hc := hts_at hr s.size (Nat.le_refl _))
  go_ret
  exact ⟨rfl, hb⟩
/-! ### the least, the greatest -/
def minTo (s : ByteArray) : Nat → Int
  | 0 => 0
  | k + 1 => if hAt s (k + 1) < minTo s k then hAt s (k + 1) else minTo s k
def maxTo (s : ByteArray) : Nat → Int
  | 0 => 0
  | k + 1 => if maxTo s k < hAt s (k + 1) then hAt s (k + 1) else maxTo s k
theorem minTo_bd (s : ByteArray) : ∀ k, k ≤ s.size → -(k : Int) ≤ minTo s k ∧ minTo s k ≤ 0 := by
  intro k
  induction k with
  | zero => intro _; simp [minTo]
  | succ k ih =>
    intro h
    have h1 := ih (by omega)
    have h2 := hAt_bd s (k + 1) h
    unfold minTo
    split <;> omega
set_option maxHeartbeats 400000 in
theorem min_ret (s : ByteArray) (w : World) (g c : Nat) (h40 : s.size ≤ 40) (B : Nat) (hr : IRow w B (.slice (some ⟨g, 0, none⟩) (s.size + 1) c) (hts s)) :
    Calls Try.prog 155 #[.slice (some ⟨g, 0, none⟩) (s.size + 1) c] w fun e w' => e = .returned (.int .i64 (minTo s s.size)) ∧ w = w' := by
  have hc0 := hts_at hr 0 (by omega)
  have i0 : ¬ (s.size : Int) + 1 < 1 := by omega
  go_enter Try.func155, Try.ntmps155
  go_wp2
  go_loop [3, 4] (fun u i => ∃ k : Nat, k ≤ s.size ∧ i = .int .i64 ((k : Int) + 1) ∧ u = .int .i64 (minTo s k)) (fun _ i => s.size + 1 - (intOf i).toNat)
  case atStart => exact ⟨0, Nat.zero_le _, rfl, by rw [hAt_zero]; rfl⟩
  case round =>
    obtain ⟨k, hk, rfl, rfl⟩ := hrel
    by_cases hlt : k < s.size
    · have hc := hts_at hr (k + 1) (by omega)
      go_wp2
      go_round
      case rel => exact ⟨k + 1, by omega, by go_num, rfl⟩
      case measure => simp [intOf]; omega
    · go_wp2
      obtain rfl : k = s.size := by omega
      go_ret
      exact ⟨rfl, rfl⟩

def lowV (s : ByteArray) : Int := if pathB s then minTo s s.size else 0
set_option maxHeartbeats 400000 in
theorem lowestOf_ret (s : ByteArray) (w : World) (hs : s.size ≤ maxLen) : Calls Try.prog 140 #[.string s] w (Ret w (.tuple #[.int .i64 (lowV s), .bool (pathB s)])) := by
  unfold lowV
  rcases Bool.eq_false_or_eq_true (pathB s) with hp | hp
  · rw [hp, if_pos rfl]
    have HP := Lib.hid hp
    have h40 := ((pathB_iff s).1 hp).1
    clear hp
    go_enter Try.func140, Try.ntmps140
    go_wp2_with (first | (go_at_call 100; refine (heights_any s _ hs HP.out).mono ?_; rintro e w1 ⟨v, rfl, hr, hb⟩; obtain ⟨g, c, rfl, hgB, hgl⟩ := hr.form' (hts_length s) (by omega)) | (go_at_call 155; refine (min_ret s _ g c h40 _ hr).mono ?_; rintro e w' ⟨rfl, rfl⟩))
    go_ret2
    exact ⟨rfl, hb⟩
  · rw [hp]
    go_enter Try.func140, Try.ntmps140
    go_wp2_with (go_at_call 100; refine (heights_no s _ hs hp).mono ?_; rintro e w' ⟨rfl, rfl⟩)
    go_ret2
    exact ⟨rfl, Below.refl _ _⟩
set_option maxHeartbeats 400000 in
theorem paLow_ret (s : ByteArray) (w : World) (hp : pathB s = true) : Calls Try.prog 106 #[.string s] w (Ret w (.int .i64 (minTo s s.size))) := by
  have HP := Lib.hid hp
  have h40 := ((pathB_iff s).1 hp).1
  clear hp
  go_enter Try.func106, Try.ntmps106
  go_wp2_with (go_at_call 99; refine (paHeights_any s _ HP.out).mono ?_; rintro e w1 ⟨v, rfl, hr, hb⟩; obtain ⟨g, c, rfl, hgB, hgl⟩ := hr.form' (hts_length s) (by omega))
  go_loop [3, 9] (fun u i => ∃ k : Nat, k ≤ s.size + 1 ∧ i = .int .i64 (k : Int) ∧ u = .int .i64 (minTo s (k - 1))) (fun _ i => s.size + 1 - (intOf i).toNat)
  case atStart => exact ⟨0, Nat.zero_le _, rfl, rfl⟩
  case round =>
    obtain ⟨k, hk, rfl, rfl⟩ := hrel
    by_cases hlt : k < s.size + 1
    · have hc := hts_at hr k (by omega)
      go_wp2_with (go_at_call 129; refine (least_any _ _ _).mono ?_; rintro e w' ⟨rfl, rfl⟩)
      go_round
      case rel => exact ⟨k + 1, by omega, by go_num, by
        cases k with
        | zero => simp [hAt_zero, minTo]
        | succ k => rfl⟩
      case measure => simp [intOf]; omega
    · go_wp2
      obtain rfl : k = s.size + 1 := by omega
      go_ret
      exact ⟨rfl, hb⟩
theorem lowV_yes {s : ByteArray} (h : pathB s = true) : lowV s = minTo s s.size := by unfold lowV; rw [if_pos h]
theorem lowV_no {s : ByteArray} (h : pathB s = false) : lowV s = 0 := by unfold lowV; rw [h]; rfl
theorem endV_yes {s : ByteArray} (h : pathB s = true) : endV s = hAt s s.size := by unfold endV; rw [if_pos h]
theorem endV_no {s : ByteArray} (h : pathB s = false) : endV s = 0 := by unfold endV; rw [h]; rfl
end Go.Proofs.Ytnlmjeakdjmohaa
