/- How many heights are a given one. -/
import Derived.Test.YtdekjmbbogddgaaScalars
namespace Go.Proofs.Ytdekjmbbogddgaa
open Go.RowKit
/-- how many of the first k heights are h -/
def timesTo (s : ByteArray) (h : Int) : Nat → Nat
  | 0 => 0
  | k + 1 => if hAt s k = h then timesTo s h k + 1 else timesTo s h k
theorem timesTo_le (s : ByteArray) (h : Int) : ∀ k, timesTo s h k ≤ k := by
  intro k
  induction k with
  | zero => simp [timesTo]
  | succ k ih => unfold timesTo; split <;> omega
theorem timesTo_yes {s : ByteArray} {h : Int} {k : Nat} (e : (hAt s k == h) = true) : timesTo s h (k + 1) = timesTo s h k + 1 := by
  rw [timesTo, if_pos (by simpa using e)]
theorem timesTo_no {s : ByteArray} {h : Int} {k : Nat} (e : (hAt s k == h) = false) : timesTo s h (k + 1) = timesTo s h k := by
  rw [timesTo, if_neg (by simpa using e)]
def timesV (s : ByteArray) (h : Int) : Int := if pathB s then (timesTo s h (s.size + 1) : Nat) else 0
set_option maxHeartbeats 400000 in
theorem times_ret (s : ByteArray) (h : Int) (w : World) (hs : s.size ≤ maxLen) : Calls Try.prog 39 #[.string s, .int .i64 h] w (Ret w (.tuple #[.int .i64 (timesV s h), .bool (pathB s)])) := by
  unfold timesV
  rcases Bool.eq_false_or_eq_true (pathB s) with hp | hp
  · rw [hp, if_pos rfl]
    have HP := Lib.hid hp
    have h40 := ((pathB_iff s).1 hp).1
    clear hp
    go_enter Try.func39, Try.ntmps39
    go_wp2_with (go_at_call 17; refine (heights_any s _ hs HP.out).mono ?_; rintro e w1 ⟨v, rfl, hr, hb⟩; obtain ⟨g, c, rfl, hgB, hgl⟩ := hr.form' (hts_length s) (by omega))
    go_loop [8, 18] (fun u i => ∃ k : Nat, k ≤ s.size + 1 ∧ i = .int .i64 (k : Int) ∧ u = .int .i64 (timesTo s h k : Nat)) (fun _ i => s.size + 1 - (intOf i).toNat)
    case atStart => exact ⟨0, Nat.zero_le _, rfl, rfl⟩
    case round =>
      obtain ⟨k, hk, rfl, rfl⟩ := hrel
      by_cases hlt : k < s.size + 1
      · have hc := hts_at hr k (by omega)
        have hle := timesTo_le s h k
        go_wp2
        · go_round
          case rel => exact ⟨k + 1, by omega, by go_num, by rw [timesTo_yes (by assumption)]; go_num⟩
          case measure => simp [intOf]; omega
        · go_round
          case rel => exact ⟨k + 1, by omega, by go_num, by rw [timesTo_no (by assumption)]⟩
          case measure => simp [intOf]; omega
      · go_wp2
        obtain rfl : k = s.size + 1 := by omega
        go_ret2
        exact ⟨rfl, hb⟩
  · rw [hp]
    go_enter Try.func39, Try.ntmps39
    go_wp2_with (go_at_call 17; refine (heights_no s _ hs hp).mono ?_; rintro e w' ⟨rfl, rfl⟩)
    refine wp_loop_rounds 1 ?_; rw [rounds_succ]
    go_wp2
    go_ret2
    exact ⟨rfl, Below.refl _ _⟩
set_option maxHeartbeats 400000 in
theorem specTimes_ret (s : ByteArray) (h : Int) (w : World) (hs : s.size ≤ maxLen) : Calls Try.prog 48 #[.string s, .int .i64 h] w (Ret w (.tuple #[.int .i64 (timesV s h), .bool (pathB s)])) := by
  unfold timesV
  rcases Bool.eq_false_or_eq_true (pathB s) with hp | hp
  · rw [hp, if_pos rfl]
    have HP := Lib.hid hp
    have h40 := ((pathB_iff s).1 hp).1
    go_enter Try.func48, Try.ntmps48
    go_wp2_with (first | (go_at_call 75; refine (paGood_any s _ hs).mono ?_; rintro e w' ⟨rfl, rfl⟩) | (go_at_call 76; refine (paHeights_any s _ HP.out).mono ?_; rintro e w1 ⟨v, rfl, hr, hb⟩; obtain ⟨g, c, rfl, hgB, hgl⟩ := hr.form' (hts_length s) (by omega)))
    go_loop [6, 15] (fun u i => ∃ k : Nat, k ≤ s.size + 1 ∧ i = .int .i64 (k : Int) ∧ u = .int .i64 (timesTo s h k : Nat)) (fun _ i => s.size + 1 - (intOf i).toNat)
    case atStart => exact ⟨0, Nat.zero_le _, rfl, rfl⟩
    case round =>
      obtain ⟨k, hk, rfl, rfl⟩ := hrel
      by_cases hlt : k < s.size + 1
      · have hc := hts_at hr k (by omega)
        have hle := timesTo_le s h k
        go_wp2
        · go_round
          case rel => exact ⟨k + 1, by omega, by go_num, by rw [timesTo_yes (by assumption)]; go_num⟩
          case measure => simp [intOf]; omega
        · go_round
          case rel => exact ⟨k + 1, by omega, by go_num, by rw [timesTo_no (by assumption)]⟩
          case measure => simp [intOf]; omega
      · go_wp2
        obtain rfl : k = s.size + 1 := by omega
        go_ret2
        exact ⟨rfl, hb⟩
  · rw [hp]
    go_enter Try.func48, Try.ntmps48
    go_wp2_with (go_at_call 75; refine (paGood_any s _ hs).mono ?_; rintro e w' ⟨rfl, rfl⟩)
    go_ret2
    exact ⟨rfl, Below.refl _ _⟩
end Go.Proofs.Ytdekjmbbogddgaa
