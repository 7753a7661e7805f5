/- The greatest height. -/
import Derived.Test.YtdekjmbbogddgaaScalars
namespace Go.Proofs.Ytdekjmbbogddgaa
open Go.RowKit
theorem most_any (a b : Int) (w : World) : Calls Try.prog 81 #[.int .i64 a, .int .i64 b] w fun e w' => e = .returned (.int .i64 (if a < b then b else a)) ∧ w = w' := by
  by_cases h : b < a
  · rw [if_neg (by omega)]
    go_enter Try.func81, Try.ntmps81
    go_wp2
    go_ret
    exact ⟨rfl, rfl⟩
  · have e : (if a < b then b else a) = b := by split <;> omega
    rw [e]
    clear e
    go_enter Try.func81, Try.ntmps81
    go_wp2
    go_ret
    exact ⟨rfl, rfl⟩
set_option maxHeartbeats 400000 in
theorem max_ret (s : ByteArray) (w : World) (g c : Nat) (h40 : s.size ≤ 40) (B : Nat) (hr : IRow w B (.slice (some ⟨g, 0, none⟩) (s.size + 1) c) (hts s)) :
    Calls Try.prog 80 #[.slice (some ⟨g, 0, none⟩) (s.size + 1) c] w fun e w' => e = .returned (.int .i64 (maxTo s s.size)) ∧ w = w' := by
  have hc0 := hts_at hr 0 (by omega)
  have i0 : ¬ (s.size : Int) + 1 < 1 := by omega
  go_enter Try.func80, Try.ntmps80
  go_wp2
  go_loop [3, 4] (fun u i => ∃ k : Nat, k ≤ s.size ∧ i = .int .i64 ((k : Int) + 1) ∧ u = .int .i64 (maxTo s k)) (fun _ i => s.size + 1 - (intOf i).toNat)
  case atStart => exact ⟨0, Nat.zero_le _, rfl, by rw [hAt_zero]; rfl⟩
  case round =>
    obtain ⟨k, hk, rfl, rfl⟩ := hrel
    by_cases hlt : k < s.size
    · have hc := hts_at hr (k + 1) (by omega)
      go_wp2
      go_round
      case rel => exact ⟨k + 1, by omega, by go_num, rfl⟩
      case measure => simp [intOf]; omega
    · go_wp2
      obtain rfl : k = s.size := by omega
      go_ret
      exact ⟨rfl, rfl⟩
def highV (s : ByteArray) : Int := if pathB s then maxTo s s.size else 0
set_option maxHeartbeats 400000 in
theorem highestOf_ret (s : ByteArray) (w : World) (hs : s.size ≤ maxLen) : Calls Try.prog 23 #[.string s] w (Ret w (.tuple #[.int .i64 (highV s), .bool (pathB s)])) := by
  unfold highV
  rcases Bool.eq_false_or_eq_true (pathB s) with hp | hp
  · rw [hp, if_pos rfl]
    have HP := Lib.hid hp
    have h40 := ((pathB_iff s).1 hp).1
    clear hp
    go_enter Try.func23, Try.ntmps23
    go_wp2_with (first | (go_at_call 17; refine (heights_any s _ hs HP.out).mono ?_; rintro e w1 ⟨v, rfl, hr, hb⟩; obtain ⟨g, c, rfl, hgB, hgl⟩ := hr.form' (hts_length s) (by omega)) | (go_at_call 80; refine (max_ret s _ g c h40 _ hr).mono ?_; rintro e w' ⟨rfl, rfl⟩))
    go_ret2
    exact ⟨rfl, hb⟩
  · rw [hp]
    go_enter Try.func23, Try.ntmps23
    go_wp2_with (go_at_call 17; refine (heights_no s _ hs hp).mono ?_; rintro e w' ⟨rfl, rfl⟩)
    go_ret2
    exact ⟨rfl, Below.refl _ _⟩
set_option maxHeartbeats 400000 in
theorem specHigh_ret (s : ByteArray) (w : World) (hs : s.size ≤ maxLen) : Calls Try.prog 24 #[.string s] w (Ret w (.tuple #[.int .i64 (highV s), .bool (pathB s)])) := by
  unfold highV
  rcases Bool.eq_false_or_eq_true (pathB s) with hp | hp
  · have HP := Lib.hid hp
    have h40 := ((pathB_iff s).1 hp).1
    rw [hp, if_pos rfl]
    go_enter Try.func24, Try.ntmps24
    go_wp2_with (first | (go_at_call 75; refine (paGood_any s _ hs).mono ?_; rintro e w' ⟨rfl, rfl⟩) | (go_at_call 76; refine (paHeights_any s _ HP.out).mono ?_; rintro e w1 ⟨v, rfl, hr, hb⟩; obtain ⟨g, c, rfl, hgB, hgl⟩ := hr.form' (hts_length s) (by omega)))
    go_loop [4, 13] (fun u i => ∃ k : Nat, k ≤ s.size + 1 ∧ i = .int .i64 (k : Int) ∧ u = .int .i64 (maxTo s (k - 1))) (fun _ i => s.size + 1 - (intOf i).toNat)
    case atStart => exact ⟨0, Nat.zero_le _, rfl, rfl⟩
    case round =>
      obtain ⟨k, hk, rfl, rfl⟩ := hrel
      by_cases hlt : k < s.size + 1
      · have hc := hts_at hr k (by omega)
        go_wp2_with (go_at_call 81; refine (most_any _ _ _).mono ?_; rintro e w' ⟨rfl, rfl⟩)
        go_round
        case rel => exact ⟨k + 1, by omega, by go_num, by
          cases k with
          | zero => simp [hAt_zero, maxTo]
          | succ k => rfl⟩
        case measure => simp [intOf]; omega
      · go_wp2
        obtain rfl : k = s.size + 1 := by omega
        go_ret2
        exact ⟨rfl, hb⟩
  · rw [hp]
    go_enter Try.func24, Try.ntmps24
    go_wp2_with (go_at_call 75; refine (paGood_any s _ hs).mono ?_; rintro e w' ⟨rfl, rfl⟩)
    go_ret2
    exact ⟨rfl, Below.refl _ _⟩
end Go.Proofs.Ytdekjmbbogddgaa
