/- CountByArea, SumOfAreas: the model. -/
import Derived.Test.YtnlmjeakdjmohaaAreaS
namespace Go.Proofs.Ytnlmjeakdjmohaa
open Go.RowKit
set_option linter.unusedVariables false
def prL2 (n : Int) : List Int := if prB n = true then arW n.toNat else []
theorem prL2_yes {m : Nat} (h : prB m = true) : prL2 m = arW m := by unfold prL2; rw [if_pos h]; rfl
theorem prL2_no {n : Int} (h : prB n = false) : prL2 n = [] := by unfold prL2; rw [h]; rfl
theorem prL2_len (n : Int) : (prL2 n).length ≤ 1048577 := by
  unfold prL2
  split
  · rename_i h
    obtain ⟨m, rfl, hm⟩ := prB_of h
    rw [(arOk _).len]
    have := Nat.mul_le_mul hm hm
    show m * m + 1 ≤ _
    omega
  · simp
set_option maxRecDepth 100000 in
set_option maxHeartbeats 400000 in
theorem specByArea_ret (n : Int) (w : World) : Calls Try.prog 45 #[.int .i64 n] w (IntsRet w (prB n) (prL2 n)) := by
  have HG := Lib.hid (reGood_any n)
  rcases Bool.eq_false_or_eq_true (prB n) with h | h
  case inr =>
    rw [prL2_no h, h]
    rw [h] at HG
    go_enter Try.func45, Try.ntmps45
    go_wp2_with (go_at_call 85; refine (HG.out _).mono ?_; rintro e w1 ⟨rfl, rfl⟩)
    go_ret2
    exact ⟨_, rfl, IRow.nil _ _, Below.refl _ _⟩
  obtain ⟨m, rfl, hm⟩ := prB_of h
  have HC := Lib.hid (reAreas_any m hm)
  rw [prL2_yes h, h]
  rw [h] at HG
  clear h
  go_enter Try.func45, Try.ntmps45
  go_wp2_with (first | (go_at_call 85; refine (HG.out _).mono ?_; rintro e w1 ⟨rfl, rfl⟩) | (go_at_call 93; refine (HC.out _).mono ?_; rintro e w2 ⟨v, vs, rfl, htr, hb2⟩; obtain ⟨gA, cA, rfl, hgA1, hgA2, hAll⟩ := htr.form (arR_length m) (by omega); obtain ⟨g1, c1, hv1, hx1, hg1⟩ := area_row htr (Nat.le_refl m); have a1 := hAll m (by omega); rw [hv1] at a1; clear hAll hv1 htr))
  go_ret2
  exact ⟨_, rfl, hx1, hb2⟩
def soF (m : Nat) : Int := soS (arW m) (m * m + 1)
set_option maxRecDepth 100000 in
set_option maxHeartbeats 800000 in
theorem specSumAreas_ret (n : Int) (w : World) : Calls Try.prog 51 #[.int .i64 n] w (Ret w (.tuple #[.int .i64 (prZ soF n), .bool (prB n)])) := by
  have HG := Lib.hid (reGood_any n)
  rcases Bool.eq_false_or_eq_true (prB n) with h | h
  case inr =>
    rw [prZ_no _ h, h]
    rw [h] at HG
    go_enter Try.func51, Try.ntmps51
    go_wp2_with (go_at_call 85; refine (HG.out _).mono ?_; rintro e w1 ⟨rfl, rfl⟩)
    go_ret2
    exact ⟨rfl, Below.refl _ _⟩
  obtain ⟨m, rfl, hm⟩ := prB_of h
  have HC := Lib.hid (reAreas_any m hm)
  have HSB := Lib.hid fun j hj => soS_bd hm j hj
  have HW := Lib.hid fun j => arW_bd hm j
  have HLW : Hid ((arW m).length = m * m + 1) := Lib.hid (arOk m).len
  have hsq : m * m ≤ 15 * 15 := Nat.mul_le_mul hm hm
  have HSO : Hid (soF m = soS (arW m) (m * m + 1)) := Lib.hid rfl
  rw [prZ_yes _ h, h]
  rw [h] at HG
  clear h
  have HMM0 : Hid (∃ mm, m * m = mm) := Lib.hid ⟨_, rfl⟩
  obtain ⟨mm, hmm⟩ := HMM0.out
  have HMM := Lib.hid hmm
  rw [hmm] at HSB HLW hsq HSO
  clear hmm HMM0
  go_enter Try.func51, Try.ntmps51
  go_wp2_with (first | (go_at_call 85; refine (HG.out _).mono ?_; rintro e w1 ⟨rfl, rfl⟩) | ((go_at_call 93; refine (HC.out _).mono ?_; rintro e w2 ⟨v, vs, rfl, htr, hb2⟩; obtain ⟨gA, cA, rfl, hgA1, hgA2, hAll⟩ := htr.form (arR_length m) (by omega); obtain ⟨g1, c1, hv1, hx1, hg1⟩ := area_row htr (Nat.le_refl m); have a1 := hAll m (by omega); rw [hv1] at a1; clear hAll hv1 htr); rw [HMM.out] at a1 hx1))
  have HX := Lib.hid hx1
  clear hx1 a1 HC
  generalize arW m = L at *
  go_loop [4, 16] (fun u i => ∃ k : Nat, k ≤ mm + 1 ∧ i = .int .i64 (k : Int) ∧ u = .int .i64 (soS L k)) (fun _ i => mm + 1 - (intOf i).toNat)
  case atStart => exact ⟨0, Nat.zero_le _, rfl, rfl⟩
  case round =>
    obtain ⟨k, hk, rfl, rfl⟩ := hrel
    by_cases hlt : k < mm + 1
    · have hc := HX.out.cell (j := k) (by rw [HLW.out]; exact hlt)
      have h1 := HSB.out k hk
      have h2 := HW.out k
      have h4 : 0 ≤ (k : Int) * L.getD k 0 := Int.mul_nonneg (by omega) h2.1
      have h5 : (k : Int) * L.getD k 0 ≤ 225 * 9694845 := Int.mul_le_mul (by omega) h2.2 h2.1 (by omega)
      have HE : Hid (soS L (k + 1) = soS L k + (k : Int) * L.getD k 0) := Lib.hid rfl
      have i1 : (k : Int) < (mm : Int) + 1 := by omega
      generalize soS L k = x at *
      generalize L.getD k 0 = y at *
      go_wp2
      go_round
      case rel => exact ⟨k + 1, by omega, by go_num, by rw [HE.out]⟩
      case measure => simp [intOf]; omega
    · obtain rfl : k = mm + 1 := by omega
      generalize soS L (mm + 1) = x at *
      have i1 : ¬ (mm : Int) + 1 < (mm : Int) + 1 := by omega
      go_wp2
      go_ret2
      exact ⟨ret_ib HSO.out.symm rfl, hb2⟩
end Go.Proofs.Ytnlmjeakdjmohaa
