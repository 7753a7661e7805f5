/- CountPaths; paChoose, the numbers of ways to choose. -/
import Derived.Test.YtnlcainfkchieaaChMath
import Derived.Test.YtnlcainfkchieaaLists
namespace Go.Proofs.Ytnlcainfkchieaa
open Go.RowKit
theorem cntOk_yes {u d : Int} (h : 0 ≤ u ∧ 0 ≤ d ∧ u + d ≤ 40) : cntOk u d = true := by simp [cntOk, h]
theorem cntOk_no {u d : Int} (h : ¬ (0 ≤ u ∧ 0 ≤ d ∧ u + d ≤ 40)) : cntOk u d = false := by
  rw [Bool.eq_false_iff]
  intro e
  simp [cntOk] at e
  exact h ⟨e.1.1, e.1.2, e.2⟩
theorem cntV_yes {u d : Nat} (h : u + d ≤ 40) : cntV u d = (chs (d + u) u : Nat) := by
  unfold cntV
  rw [cntOk_yes (by omega), if_pos rfl]
  have := chZ_nat (u + d) u
  rw [Nat.add_comm d u, ← this]
  rfl
theorem cntV_no {u d : Int} (h : ¬ (0 ≤ u ∧ 0 ≤ d ∧ u + d ≤ 40)) : cntV u d = 0 := by unfold cntV; rw [cntOk_no h]; rfl
set_option maxHeartbeats 400000 in
theorem count_no (u d : Int) (w : World) (h : ¬ (0 ≤ u ∧ 0 ≤ d ∧ u + d ≤ 40)) :
    Calls Try.prog 61 #[.int .i64 u, .int .i64 d] w fun e w' => e = .returned (.tuple #[.int .i64 0, .bool false]) ∧ w = w' := by
  by_cases h1 : u < 0
  · go_enter Try.func61, Try.ntmps61
    go_wp2
    go_ret2
    exact ⟨rfl, rfl⟩
  · by_cases h2 : d < 0
    · go_enter Try.func61, Try.ntmps61
      go_wp2
      go_ret2
      exact ⟨rfl, rfl⟩
    · by_cases h3 : 40 < u
      · go_enter Try.func61, Try.ntmps61
        go_wp2
        go_ret2
        exact ⟨rfl, rfl⟩
      · have h4 : 40 - u < d := by omega
        clear h
        go_enter Try.func61, Try.ntmps61
        go_wp2
        go_ret2
        exact ⟨rfl, rfl⟩
set_option maxHeartbeats 400000 in
theorem count_yes (u d : Nat) (w : World) (h : u + d ≤ 40) :
    Calls Try.prog 61 #[.int .i64 u, .int .i64 d] w fun e w' => e = .returned (.tuple #[.int .i64 (chs (d + u) u : Nat), .bool true]) ∧ w = w' := by
  have h1 : ¬ (u : Int) < 0 := by omega
  have h2 : ¬ (d : Int) < 0 := by omega
  have h3 : ¬ 40 < (u : Int) := by omega
  have h4 : ¬ 40 - (u : Int) < d := by omega
  go_enter Try.func61, Try.ntmps61
  go_wp2
  go_loop [6, 7] (fun c i => ∃ k : Nat, k ≤ u ∧ i = .int .i64 ((k : Int) + 1) ∧ c = .int .i64 (chs (d + k) k : Nat)) (fun _ i => u + 1 - (intOf i).toNat)
  case atStart => exact ⟨0, by omega, rfl, by rw [chs_zero]; rfl⟩
  case round =>
    obtain ⟨k, hk, rfl, rfl⟩ := hrel
    by_cases hlt : k < u
    · have hs := chs_small40 (d + k) k (by omega)
      have HM := Lib.hid (chs_mul d k)
      generalize hc : chs (d + k) k = c at *
      have HC := Lib.hid hc
      clear hc
      have hmul : 0 ≤ (c : Int) * ((d : Int) + ((k : Int) + 1)) ∧ (c : Int) * ((d : Int) + ((k : Int) + 1)) ≤ 9223372036854775807 := by
        have e : (c : Int) * ((d : Int) + ((k : Int) + 1)) = ((c * (d + (k + 1)) : Nat) : Int) := by simp
        rw [e]
        have := Nat.mul_le_mul hs (show d + (k + 1) ≤ 41 by omega)
        omega
      go_wp2
      go_round
      case rel => exact ⟨k + 1, by omega, by go_num, by rw [← HM.out]; go_num⟩
      case measure => simp [intOf]; omega
    · go_wp2
      obtain rfl : k = u := by omega
      go_ret2
      exact ⟨rfl, rfl⟩
theorem count_ret (u d : Int) (w : World) :
    Calls Try.prog 61 #[.int .i64 u, .int .i64 d] w fun e w' => e = .returned (.tuple #[.int .i64 (cntV u d), .bool (cntOk u d)]) ∧ w = w' := by
  by_cases h : 0 ≤ u ∧ 0 ≤ d ∧ u + d ≤ 40
  · obtain ⟨hu0, hd0, hs⟩ := h
    obtain ⟨a, rfl⟩ := Int.eq_ofNat_of_zero_le hu0
    obtain ⟨b, rfl⟩ := Int.eq_ofNat_of_zero_le hd0
    rw [cntOk_yes ⟨hu0, hd0, hs⟩, cntV_yes (by omega)]
    exact count_yes a b w (by omega)
  · rw [cntOk_no h, cntV_no h]
    exact count_no u d w h
end Go.Proofs.Ytnlcainfkchieaa
