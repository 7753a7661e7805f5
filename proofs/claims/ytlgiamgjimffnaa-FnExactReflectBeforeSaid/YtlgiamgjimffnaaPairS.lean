/- The model's PairOf. -/
import Derived.Test.YtlgiamgjimffnaaTchS
import Derived.Deep.RegionLaw
namespace Go.Proofs.Ytlgiamgjimffnaa
open Go.RowKit
set_option linter.unusedVariables false
theorem low_meets (s : ByteArray) : ∀ k, k ≤ s.size → (minTo s k ≤ hAt s k) ∧ (minTo s k < 0 → ∃ j, j ≤ k ∧ hAt s j = -1)
  | 0, _ => ⟨by rw [hAt_zero]; simp [minTo], fun h => by simp [minTo] at h⟩
  | k + 1, h => by
    obtain ⟨h1, h2⟩ := low_meets s k (by omega)
    have h3 := hAt_succ s k (by omega)
    have h4 : stepI s[k] = 1 ∨ stepI s[k] = -1 := by unfold stepI stepZ; split <;> simp
    rw [minTo]
    split
    · refine ⟨Int.le_refl _, fun hlt => ?_⟩
      by_cases h5 : minTo s k < 0
      · obtain ⟨j, hj, e⟩ := h2 h5
        exact ⟨j, by omega, e⟩
      · exact ⟨k + 1, Nat.le_refl _, by omega⟩
    · refine ⟨by omega, fun hlt => ?_⟩
      obtain ⟨j, hj, e⟩ := h2 hlt
      exact ⟨j, by omega, e⟩
theorem faGo_meets (s : ByteArray) (h : Int) : ∀ n k, (∃ j, k ≤ j ∧ j < k + n ∧ hAt s j = h) → 0 ≤ faGo s h n k
  | 0, k, ⟨j, h1, h2, _⟩ => by omega
  | n + 1, k, ⟨j, h1, h2, h3⟩ => by
    rw [faGo]
    split
    · omega
    · exact faGo_meets s h n (k + 1) ⟨j, by rcases Nat.eq_or_lt_of_le h1 with e | e
                                            · subst e; contradiction
                                            · omega, by omega, h3⟩
theorem faZ_low (s : ByteArray) (h : minTo s s.size < 0) : 0 ≤ faZ s (-1) := by
  obtain ⟨j, hj, e⟩ := (low_meets s s.size (Nat.le_refl _)).2 h
  exact faGo_meets s (-1) _ _ ⟨j, Nat.zero_le _, by omega, e⟩
def prOk (s : ByteArray) : Bool := pathB s && decide (hAt s s.size = 0) && decide (minTo s s.size < 0)
def prV (s : ByteArray) : ByteArray := if prOk s = true then turnS (s.extract 0 (faZ s (-1)).toNat) ++ s.extract (faZ s (-1)).toNat s.size else ⟨#[]⟩
set_option maxHeartbeats 800000 in
theorem specPairOf_ret (s : ByteArray) (w : World) (hs : s.size ≤ maxLen) : Calls Try.prog 71 #[.string s] w (Ret w (.tuple #[.string (prV s), .bool (prOk s)])) := by
  rcases Bool.eq_false_or_eq_true (pathB s) with hp | hp
  case inr =>
    have e1 : prOk s = false := by simp [prOk, hp]
    have e2 : prV s = ⟨#[]⟩ := by rw [prV, e1]; rfl
    rw [e1, e2]
    clear e1 e2
    go_enter Try.func71, Try.ntmps71
    go_wp2_with (go_at_call 85; refine (paGood_any s _ hs).mono ?_; rintro e w' ⟨rfl, rfl⟩)
    go_ret2
    exact ⟨rfl, Below.refl _ _⟩
  have HP := Lib.hid hp
  have h40 := ((pathB_iff s).1 hp).1
  have HE : Hid (∀ w, Calls Try.prog 115 #[.string s] w (Ret w (.int .i64 (hAt s s.size)))) := Lib.hid fun w => paEnd_ret s w hp
  have HL : Hid (∀ w, Calls Try.prog 116 #[.string s] w (Ret w (.int .i64 (minTo s s.size)))) := Lib.hid fun w => paLow_ret s w hp
  have MF : Hid (∀ w, Calls Try.prog 87 #[.string s, .int .i64 (-1)] w (Ret w (.int .i64 (faZ s (-1))))) := Lib.hid fun w => miFirst_ret s (-1) w hp
  have hbd := faZ_bd s (-1)
  have hacc := Below.refl w.heap.size w
  by_cases h0 : hAt s s.size = 0
  case neg =>
    have e1 : prOk s = false := by simp [prOk, h0]
    have e2 : prV s = ⟨#[]⟩ := by rw [prV, e1]; rfl
    rw [e1, e2]
    clear e1 e2
    generalize hAt s s.size = x at *
    go_enter Try.func71, Try.ntmps71
    go_wp2_with (first | (go_at_call 85; refine (paGood_any s _ hs).mono ?_; rintro e w' ⟨rfl, rfl⟩) | (go_at_call 115; refine (HE.out _).mono ?_; rintro e w1 ⟨rfl, hb⟩; replace hacc := hacc.trans (hb.mono hacc.size); clear hb) | (go_at_call 116; refine (HL.out _).mono ?_; rintro e w1 ⟨rfl, hb⟩; replace hacc := hacc.trans (hb.mono hacc.size); clear hb))
    go_ret2
    exact ⟨rfl, hacc⟩
  by_cases h1 : minTo s s.size < 0
  case neg =>
    have e1 : prOk s = false := by simp [prOk, h1]
    have e2 : prV s = ⟨#[]⟩ := by rw [prV, e1]; rfl
    rw [e1, e2]
    clear e1 e2
    rw [h0] at HE
    generalize minTo s s.size = y at *
    go_enter Try.func71, Try.ntmps71
    go_wp2_with (first | (go_at_call 85; refine (paGood_any s _ hs).mono ?_; rintro e w' ⟨rfl, rfl⟩) | (go_at_call 115; refine (HE.out _).mono ?_; rintro e w1 ⟨rfl, hb⟩; replace hacc := hacc.trans (hb.mono hacc.size); clear hb) | (go_at_call 116; refine (HL.out _).mono ?_; rintro e w1 ⟨rfl, hb⟩; replace hacc := hacc.trans (hb.mono hacc.size); clear hb))
    go_ret2
    exact ⟨rfl, hacc⟩
  have h2 := faZ_low s h1
  have e1 : prOk s = true := by simp [prOk, hp, h0, h1]
  have e2 : prV s = turnS (s.extract 0 (faZ s (-1)).toNat) ++ s.extract (faZ s (-1)).toNat s.size := by rw [prV, if_pos e1]
  rw [e1, e2]
  clear e1 e2
  rw [h0] at HE
  obtain ⟨z, hz⟩ : ∃ z : Nat, faZ s (-1) = z := ⟨(faZ s (-1)).toNat, by omega⟩
  have hzs : z ≤ s.size := by omega
  rw [hz] at MF
  rw [hz, Int.toNat_natCast]
  have HT : Hid (∀ w, Calls Try.prog 92 #[.string (s.extract 0 z)] w (Ret w (.string (turnS (s.extract 0 z))))) := Lib.hid fun w => paTurn_ret _ w (by rw [ByteArray.size_extract]; omega)
  have j1 : (z : Int) ≤ (s.size : Int) := by omega
  have j2 : (0 : Int) ≤ (z : Int) := by omega
  have j3 : ¬ 9223372036854775807 < (turnS (s.extract 0 z)).size + (s.size - z) := by rw [turnS_size, ByteArray.size_extract]; omega
  clear hz hbd h2 h0
  have h1' : ¬ 0 ≤ minTo s s.size := by omega
  generalize minTo s s.size = y at *
  go_enter Try.func71, Try.ntmps71
  go_wp2_with (first | (go_at_call 85; refine (paGood_any s _ hs).mono ?_; rintro e w' ⟨rfl, rfl⟩) | (go_at_call 115; refine (HE.out _).mono ?_; rintro e w1 ⟨rfl, hb⟩; replace hacc := hacc.trans (hb.mono hacc.size); clear hb) | (go_at_call 116; refine (HL.out _).mono ?_; rintro e w1 ⟨rfl, hb⟩; replace hacc := hacc.trans (hb.mono hacc.size); clear hb) | (go_at_call 87; refine (MF.out _).mono ?_; rintro e w1 ⟨rfl, hb⟩; replace hacc := hacc.trans (hb.mono hacc.size); clear hb))
  have hacd := hacc.drew
  go_region_law (go_simp; go_at_call 92; refine (HT.out _).mono ?_; rintro e w2 ⟨rfl, hb2⟩)
  all_goals (try go_wp2_with fail)
  all_goals go_ret2
  all_goals exact ⟨rfl, hacd.trans (hb2.mono hacd.size)⟩
end Go.Proofs.Ytlgiamgjimffnaa
