/- The sum of the heights. -/
import Derived.Test.YtnlmjeakdjmohaaScalars
namespace Go.Proofs.Ytnlmjeakdjmohaa
open Go.RowKit
/-- the sum of the first k heights -/
def areaTo (s : ByteArray) : Nat → Int
  | 0 => 0
  | k + 1 => areaTo s k + hAt s k
theorem areaTo_bd (s : ByteArray) (h40 : s.size ≤ 40) : ∀ k, k ≤ s.size + 1 → -(40 * (k : Int)) ≤ areaTo s k ∧ areaTo s k ≤ 40 * k := by
  intro k
  induction k with
  | zero => intro _; simp [areaTo]
  | succ k ih =>
    intro h
    have h1 := ih (by omega)
    have h2 := hAt_bd s k (by omega)
    unfold areaTo
    omega
def areaV (s : ByteArray) : Int := if pathB s then areaTo s (s.size + 1) else 0
set_option maxHeartbeats 400000 in
theorem area_ret (s : ByteArray) (w : World) (hs : s.size ≤ maxLen) : Calls Try.prog 110 #[.string s] w (Ret w (.tuple #[.int .i64 (areaV s), .bool (pathB s)])) := by
  unfold areaV
  rcases Bool.eq_false_or_eq_true (pathB s) with hp | hp
  · rw [hp, if_pos rfl]
    have HP := Lib.hid hp
    have h40 := ((pathB_iff s).1 hp).1
    clear hp
    go_enter Try.func110, Try.ntmps110
    go_wp2_with (go_at_call 100; refine (heights_any s _ hs HP.out).mono ?_; rintro e w1 ⟨v, rfl, hr, hb⟩; obtain ⟨g, c, rfl, hgB, hgl⟩ := hr.form' (hts_length s) (by omega))
    go_loop [6, 16] (fun u i => ∃ k : Nat, k ≤ s.size + 1 ∧ i = .int .i64 (k : Int) ∧ u = .int .i64 (areaTo s k)) (fun _ i => s.size + 1 - (intOf i).toNat)
    case atStart => exact ⟨0, Nat.zero_le _, rfl, rfl⟩
    case round =>
      obtain ⟨k, hk, rfl, rfl⟩ := hrel
      by_cases hlt : k < s.size + 1
      · have hc := hts_at hr k (by omega)
        have h1 := areaTo_bd s h40 k (by omega)
        have h2 := hAt_bd s k (by omega)
        go_wp2
        go_round
        case rel => exact ⟨k + 1, by omega, by go_num, rfl⟩
        case measure => simp [intOf]; omega
      · go_wp2
        obtain rfl : k = s.size + 1 := by omega
        go_ret2
        exact ⟨rfl, hb⟩
  · rw [hp]
    go_enter Try.func110, Try.ntmps110
    go_wp2_with (go_at_call 100; refine (heights_no s _ hs hp).mono ?_; rintro e w' ⟨rfl, rfl⟩)
    refine wp_loop_rounds 1 ?_; rw [rounds_succ]
    go_wp2
    go_ret2
    exact ⟨rfl, Below.refl _ _⟩
end Go.Proofs.Ytnlmjeakdjmohaa
