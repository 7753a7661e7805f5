/- CountAhead, CountNeverBehind: by the formula. -/
import Derived.Test.YtnlmjeakdjmohaaLeads
import Derived.Test.YtnlmjeakdjmohaaChoose
namespace Go.Proofs.Ytnlmjeakdjmohaa
open Go.RowKit
def allOk (a b k : Int) : Bool := inK k && cntOk a b
def allV (a b k : Int) : Int := if allOk a b k then cntV a b else 0
def aheadV (a b k : Int) : Int := if allOk a b k then aheadN (cntV a b) a b k else 0
def neverV (a b k : Int) : Int := if allOk a b k then neverN (cntV a b) a b k else 0
/-- numbers that are asked for -/
structure Asked (a b k : Int) : Prop where
  a0 : 0 ≤ a
  b0 : 0 ≤ b
  ab : a + b ≤ 40
  k1 : 1 ≤ k
  k5 : k ≤ 5
theorem allOk_of {a b k : Int} (h : allOk a b k = true) : Asked a b k := by
  unfold allOk at h
  rw [Bool.and_eq_true] at h
  have h1 := inK_of h.1
  have h2 := h.2
  simp [cntOk] at h2
  exact ⟨h2.1.1, h2.1.2, h2.2, h1.1, h1.2⟩
theorem Asked.ok {a b k : Int} (h : Asked a b k) : allOk a b k = true := by
  unfold allOk
  rw [inK_yes ⟨h.k1, h.k5⟩, cntOk_yes ⟨h.a0, h.b0, h.ab⟩]; rfl
theorem Asked.kb {a b k : Int} (h : Asked a b k) : 0 ≤ k * b ∧ k * b ≤ 200 := by
  have h1 := h.a0
  have h2 := h.b0
  have h3 := h.ab
  have h4 := h.k1
  have h5 := h.k5
  refine ⟨Int.mul_nonneg (by omega) h2, ?_⟩
  have := Int.mul_le_mul h5 (show b ≤ 40 by omega) h2 (by omega)
  omega
theorem mul_bd {c x : Int} (hc : 0 ≤ c ∧ c ≤ 1099511627776) (hx : 0 ≤ x ∧ x ≤ 41) : 0 ≤ c * x ∧ c * x ≤ 45079976738816 := by
  refine ⟨Int.mul_nonneg hc.1 hx.1, ?_⟩
  have := Int.mul_le_mul hc.2 hx.2 hx.1 (by omega)
  omega
theorem inB_k (k : Int) : inB k 1 5 = inK k := rfl
set_option maxHeartbeats 400000 in
theorem countAll_ret (a b k : Int) (w : World) : Calls Try.prog 135 #[.int .i64 a, .int .i64 b, .int .i64 k] w fun e w' => e = .returned (.tuple #[.int .i64 (allV a b k), .bool (allOk a b k)]) ∧ w = w' := by
  rcases Bool.eq_false_or_eq_true (inK k) with hk | hk
  · have HV : Hid (allV a b k = cntV a b) := by
      unfold Hid allV allOk
      rw [hk, Bool.true_and]
      split
      · rfl
      · rename_i h; unfold cntV; rw [if_neg h]
    have HO : Hid (allOk a b k = cntOk a b) := by unfold Hid allOk; rw [hk, Bool.true_and]
    rw [HV.out, HO.out]
    generalize hcv : cntV a b = cv at *
    generalize hco : cntOk a b = co at *
    have HC : Hid (∀ w, Calls Try.prog 88 #[.int .i64 a, .int .i64 b] w fun e w' => e = .returned (.tuple #[.int .i64 cv, .bool co]) ∧ w = w') := Lib.hid fun w => by rw [← hcv, ← hco]; exact count_ret a b w
    clear hcv hco
    go_enter Try.func135, Try.ntmps135
    go_wp2_with (first | (go_at_call 153; refine (isFactor_any k _).mono ?_; rintro e w' ⟨rfl, rfl⟩; rw [hk]) | (go_at_call 88; refine (HC.out _).mono ?_; rintro e w' ⟨rfl, rfl⟩))
    go_ret2
    exact ⟨rfl, rfl⟩
  · have HO : Hid (allOk a b k = false) := by unfold Hid allOk; rw [hk]; rfl
    have HV : Hid (allV a b k = 0) := by unfold Hid allV; rw [HO.out]; rfl
    rw [HV.out, HO.out]
    go_enter Try.func135, Try.ntmps135
    go_wp2_with (go_at_call 153; refine (isFactor_any k _).mono ?_; rintro e w' ⟨rfl, rfl⟩; rw [hk])
    go_ret2
    exact ⟨rfl, rfl⟩
theorem allV_yes {a b k : Int} (h : allOk a b k = true) : allV a b k = cntV a b := by unfold allV; rw [if_pos h]
theorem allV_no {a b k : Int} (h : allOk a b k = false) : allV a b k = 0 := by unfold allV; rw [h]; rfl
theorem aheadV_yes {a b k : Int} (h : allOk a b k = true) : aheadV a b k = aheadN (cntV a b) a b k := by unfold aheadV; rw [if_pos h]
theorem aheadV_no {a b k : Int} (h : allOk a b k = false) : aheadV a b k = 0 := by unfold aheadV; rw [h]; rfl
theorem neverV_yes {a b k : Int} (h : allOk a b k = true) : neverV a b k = neverN (cntV a b) a b k := by unfold neverV; rw [if_pos h]
theorem neverV_no {a b k : Int} (h : allOk a b k = false) : neverV a b k = 0 := by unfold neverV; rw [h]; rfl
theorem aheadN_1 {c a b k : Int} (h : a < k * b) : aheadN c a b k = 0 := by unfold aheadN; rw [if_pos h]
theorem aheadN_2 {c a b k : Int} (h : ¬ a < k * b) (h0 : a + b = 0) : aheadN c a b k = 1 := by unfold aheadN; rw [if_neg h, if_pos h0]
theorem aheadN_3 {c a b k : Int} (h : ¬ a < k * b) (h0 : a + b ≠ 0) : aheadN c a b k = c * (a - k * b) / (a + b) := by unfold aheadN; rw [if_neg h, if_neg h0]
theorem neverN_1 {c a b k : Int} (h : a < k * b) : neverN c a b k = 0 := by unfold neverN; rw [if_pos h]
theorem neverN_2 {c a b k : Int} (h : ¬ a < k * b) : neverN c a b k = c * (a + 1 - k * b) / (a + 1) := by unfold neverN; rw [if_neg h]
set_option maxHeartbeats 400000 in
theorem countNever_any (a b k : Int) (w : World) : Calls Try.prog 96 #[.int .i64 a, .int .i64 b, .int .i64 k] w fun e w' => e = .returned (.tuple #[.int .i64 (neverV a b k), .bool (allOk a b k)]) ∧ w = w' := by
  have HC : Hid (∀ w, Calls Try.prog 135 #[.int .i64 a, .int .i64 b, .int .i64 k] w fun e w' => e = .returned (.tuple #[.int .i64 (allV a b k), .bool (allOk a b k)]) ∧ w = w') := Lib.hid fun w => countAll_ret a b k w
  rcases Bool.eq_false_or_eq_true (allOk a b k) with hp | hp
  · obtain ⟨h1, h2, h3, h4, h5⟩ := allOk_of hp
    have hkb := (allOk_of hp).kb
    have hcb := cntV_bd a b
    rw [allV_yes hp, hp] at HC
    have HA := Lib.hid (neverV_yes hp)
    rw [HA.out, hp]
    clear HA
    generalize cntV a b = c at *
    by_cases hlt : a < k * b
    · rw [neverN_1 hlt]
      go_enter Try.func96, Try.ntmps96
      go_wp2_with (go_at_call 135; refine (HC.out _).mono ?_; rintro e w' ⟨rfl, rfl⟩)
      go_ret2
      exact ⟨rfl, rfl⟩
    · rw [neverN_2 hlt]
      have hm := mul_bd hcb (show 0 ≤ a + 1 - k * b ∧ a + 1 - k * b ≤ 41 by omega)
      go_enter Try.func96, Try.ntmps96
      go_wp2_with (go_at_call 135; refine (HC.out _).mono ?_; rintro e w' ⟨rfl, rfl⟩)
      go_ret2
      exact ⟨rfl, rfl⟩
  · rw [allV_no hp, hp] at HC
    rw [neverV_no hp, hp]
    go_enter Try.func96, Try.ntmps96
    go_wp2_with (go_at_call 135; refine (HC.out _).mono ?_; rintro e w' ⟨rfl, rfl⟩)
    go_ret2
    exact ⟨rfl, rfl⟩
theorem countNever_ret (a b k : Int) (w : World) : Calls Try.prog 96 #[.int .i64 a, .int .i64 b, .int .i64 k] w (Ret w (.tuple #[.int .i64 (neverV a b k), .bool (allOk a b k)])) :=
  (countNever_any a b k w).mono fun _ _ ⟨h1, h2⟩ => ⟨h1, h2 ▸ Below.refl _ _⟩
/-! ### the model -/
theorem cntV_chZ {a b k : Int} (h : Asked a b k) : cntV a b = chZ (a + b) a := by
  unfold cntV; rw [cntOk_yes ⟨h.a0, h.b0, h.ab⟩]; rfl
end Go.Proofs.Ytnlmjeakdjmohaa
