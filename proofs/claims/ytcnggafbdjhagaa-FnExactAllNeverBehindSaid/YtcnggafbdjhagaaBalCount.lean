/- CountAhead, CountNeverBehind: by the formula. -/
import Derived.Test.YtcnggafbdjhagaaLeads
import Derived.Test.YtcnggafbdjhagaaChoose
namespace Go.Proofs.Ytcnggafbdjhagaa
open Go.RowKit
def allOk (a b k : Int) : Bool := inK k && cntOk a b
def allV (a b k : Int) : Int := if allOk a b k then cntV a b else 0
def aheadV (a b k : Int) : Int := if allOk a b k then aheadN (cntV a b) a b k else 0
def neverV (a b k : Int) : Int := if allOk a b k then neverN (cntV a b) a b k else 0
/-- numbers that are asked for -/
structure Asked (a b k : Int) : Prop where
  a0 : 0 ≤ a
  b0 : 0 ≤ b
  ab : a + b ≤ 40
  k1 : 1 ≤ k
  k5 : k ≤ 5
theorem allOk_of {a b k : Int} (h : allOk a b k = true) : Asked a b k := by
  unfold allOk at h
  rw [Bool.and_eq_true] at h
  have h1 := inK_of h.1
  have h2 := h.2
  simp [cntOk] at h2
  exact ⟨h2.1.1, h2.1.2, h2.2, h1.1, h1.2⟩
theorem Asked.ok {a b k : Int} (h : Asked a b k) : allOk a b k = true := by
  unfold allOk
  rw [inK_yes ⟨h.k1, h.k5⟩, cntOk_yes ⟨h.a0, h.b0, h.ab⟩]; rfl
theorem Asked.kb {a b k : Int} (h : Asked a b k) : 0 ≤ k * b ∧ k * b ≤ 200 := by
  have h1 := h.a0
  have h2 := h.b0
  have h3 := h.ab
  have h4 := h.k1
  have h5 := h.k5
  refine ⟨Int.mul_nonneg (by omega) h2, ?_⟩
  have := Int.mul_le_mul h5 (show b ≤ 40 by omega) h2 (by omega)
  omega
theorem mul_bd {c x : Int} (hc : 0 ≤ c ∧ c ≤ 1099511627776) (hx : 0 ≤ x ∧ x ≤ 41) : 0 ≤ c * x ∧ c * x ≤ 45079976738816 := by
  refine ⟨Int.mul_nonneg hc.1 hx.1, ?_⟩
  have := Int.mul_le_mul hc.2 hx.2 hx.1 (by omega)
  omega
theorem inB_k (k : Int) : inB k 1 5 = inK k := rfl
set_option maxHeartbeats 400000 in
theorem countAll_ret (a b k : Int) (w : World) : Calls Try.prog 65 #[.int .i64 a, .int .i64 b, .int .i64 k] w fun e w' => e = .returned (.tuple #[.int .i64 (allV a b k), .bool (allOk a b k)]) ∧ w = w' := by
  rcases Bool.eq_false_or_eq_true (inK k) with hk | hk
  · have HV : Hid (allV a b k = cntV a b) := by
      unfold Hid allV allOk
      rw [hk, Bool.true_and]
      split
      · rfl
      · rename_i h; unfold cntV; rw [if_neg h]
    have HO : Hid (allOk a b k = cntOk a b) := by unfold Hid allOk; rw [hk, Bool.true_and]
    rw [HV.out, HO.out]
    generalize hcv : cntV a b = cv at *
    generalize hco : cntOk a b = co at *
    have HC : Hid (∀ w, Calls Try.prog 85 #[.int .i64 a, .int .i64 b] w fun e w' => e = .returned (.tuple #[.int .i64 cv, .bool co]) ∧ w = w') := Lib.hid fun w => by rw [← hcv, ← hco]; exact count_ret a b w
    clear hcv hco
    go_enter Try.func65, Try.ntmps65
    go_wp2_with (first | (go_at_call 83; refine (isFactor_any k _).mono ?_; rintro e w' ⟨rfl, rfl⟩; rw [hk]) | (go_at_call 85; refine (HC.out _).mono ?_; rintro e w' ⟨rfl, rfl⟩))
    go_ret2
    exact ⟨rfl, rfl⟩
  · have HO : Hid (allOk a b k = false) := by unfold Hid allOk; rw [hk]; rfl
    have HV : Hid (allV a b k = 0) := by unfold Hid allV; rw [HO.out]; rfl
    rw [HV.out, HO.out]
    go_enter Try.func65, Try.ntmps65
    go_wp2_with (go_at_call 83; refine (isFactor_any k _).mono ?_; rintro e w' ⟨rfl, rfl⟩; rw [hk])
    go_ret2
    exact ⟨rfl, rfl⟩
theorem allV_yes {a b k : Int} (h : allOk a b k = true) : allV a b k = cntV a b := by unfold allV; rw [if_pos h]
theorem allV_no {a b k : Int} (h : allOk a b k = false) : allV a b k = 0 := by unfold allV; rw [h]; rfl
theorem aheadV_yes {a b k : Int} (h : allOk a b k = true) : aheadV a b k = aheadN (cntV a b) a b k := by unfold aheadV; rw [if_pos h]
theorem aheadV_no {a b k : Int} (h : allOk a b k = false) : aheadV a b k = 0 := by unfold aheadV; rw [h]; rfl
theorem neverV_yes {a b k : Int} (h : allOk a b k = true) : neverV a b k = neverN (cntV a b) a b k := by unfold neverV; rw [if_pos h]
theorem neverV_no {a b k : Int} (h : allOk a b k = false) : neverV a b k = 0 := by unfold neverV; rw [h]; rfl
theorem aheadN_1 {c a b k : Int} (h : a < k * b) : aheadN c a b k = 0 := by unfold aheadN; rw [if_pos h]
theorem aheadN_2 {c a b k : Int} (h : ¬ a < k * b) (h0 : a + b = 0) : aheadN c a b k = 1 := by unfold aheadN; rw [if_neg h, if_pos h0]
theorem aheadN_3 {c a b k : Int} (h : ¬ a < k * b) (h0 : a + b ≠ 0) : aheadN c a b k = c * (a - k * b) / (a + b) := by unfold aheadN; rw [if_neg h, if_neg h0]
theorem neverN_1 {c a b k : Int} (h : a < k * b) : neverN c a b k = 0 := by unfold neverN; rw [if_pos h]
theorem neverN_2 {c a b k : Int} (h : ¬ a < k * b) : neverN c a b k = c * (a + 1 - k * b) / (a + 1) := by unfold neverN; rw [if_neg h]
set_option maxHeartbeats 400000 in
theorem countAhead_any (a b k : Int) (w : World) : Calls Try.prog 33 #[.int .i64 a, .int .i64 b, .int .i64 k] w fun e w' => e = .returned (.tuple #[.int .i64 (aheadV a b k), .bool (allOk a b k)]) ∧ w = w' := by
  have HC : Hid (∀ w, Calls Try.prog 65 #[.int .i64 a, .int .i64 b, .int .i64 k] w fun e w' => e = .returned (.tuple #[.int .i64 (allV a b k), .bool (allOk a b k)]) ∧ w = w') := Lib.hid fun w => countAll_ret a b k w
  rcases Bool.eq_false_or_eq_true (allOk a b k) with hp | hp
  · obtain ⟨h1, h2, h3, h4, h5⟩ := allOk_of hp
    have hkb := (allOk_of hp).kb
    have hcb := cntV_bd a b
    rw [allV_yes hp, hp] at HC
    have HA := Lib.hid (aheadV_yes hp)
    rw [HA.out, hp]
    clear HA
    generalize cntV a b = c at *
    by_cases hlt : a < k * b
    · rw [aheadN_1 hlt]
      go_enter Try.func33, Try.ntmps33
      go_wp2_with (go_at_call 65; refine (HC.out _).mono ?_; rintro e w' ⟨rfl, rfl⟩)
      go_ret2
      exact ⟨rfl, rfl⟩
    · by_cases h0 : a + b = 0
      · rw [aheadN_2 hlt h0]
        have i0 : (a + b == 0) = true := by simpa using h0
        clear h0
        go_enter Try.func33, Try.ntmps33
        go_wp2_with (go_at_call 65; refine (HC.out _).mono ?_; rintro e w' ⟨rfl, rfl⟩)
        go_ret2
        exact ⟨rfl, rfl⟩
      · rw [aheadN_3 hlt h0]
        have i0 : (a + b == 0) = false := by simpa using h0
        have i1 : 1 ≤ a + b := by omega
        clear h0
        have hm := mul_bd hcb (show 0 ≤ a - k * b ∧ a - k * b ≤ 41 by omega)
        go_enter Try.func33, Try.ntmps33
        go_wp2_with (go_at_call 65; refine (HC.out _).mono ?_; rintro e w' ⟨rfl, rfl⟩)
        go_ret2
        exact ⟨rfl, rfl⟩
  · rw [allV_no hp, hp] at HC
    rw [aheadV_no hp, hp]
    go_enter Try.func33, Try.ntmps33
    go_wp2_with (go_at_call 65; refine (HC.out _).mono ?_; rintro e w' ⟨rfl, rfl⟩)
    go_ret2
    exact ⟨rfl, rfl⟩
set_option maxHeartbeats 400000 in
theorem countNever_any (a b k : Int) (w : World) : Calls Try.prog 35 #[.int .i64 a, .int .i64 b, .int .i64 k] w fun e w' => e = .returned (.tuple #[.int .i64 (neverV a b k), .bool (allOk a b k)]) ∧ w = w' := by
  have HC : Hid (∀ w, Calls Try.prog 65 #[.int .i64 a, .int .i64 b, .int .i64 k] w fun e w' => e = .returned (.tuple #[.int .i64 (allV a b k), .bool (allOk a b k)]) ∧ w = w') := Lib.hid fun w => countAll_ret a b k w
  rcases Bool.eq_false_or_eq_true (allOk a b k) with hp | hp
  · obtain ⟨h1, h2, h3, h4, h5⟩ := allOk_of hp
    have hkb := (allOk_of hp).kb
    have hcb := cntV_bd a b
    rw [allV_yes hp, hp] at HC
    have HA := Lib.hid (neverV_yes hp)
    rw [HA.out, hp]
    clear HA
    generalize cntV a b = c at *
    by_cases hlt : a < k * b
    · rw [neverN_1 hlt]
      go_enter Try.func35, Try.ntmps35
      go_wp2_with (go_at_call 65; refine (HC.out _).mono ?_; rintro e w' ⟨rfl, rfl⟩)
      go_ret2
      exact ⟨rfl, rfl⟩
    · rw [neverN_2 hlt]
      have hm := mul_bd hcb (show 0 ≤ a + 1 - k * b ∧ a + 1 - k * b ≤ 41 by omega)
      go_enter Try.func35, Try.ntmps35
      go_wp2_with (go_at_call 65; refine (HC.out _).mono ?_; rintro e w' ⟨rfl, rfl⟩)
      go_ret2
      exact ⟨rfl, rfl⟩
  · rw [allV_no hp, hp] at HC
    rw [neverV_no hp, hp]
    go_enter Try.func35, Try.ntmps35
    go_wp2_with (go_at_call 65; refine (HC.out _).mono ?_; rintro e w' ⟨rfl, rfl⟩)
    go_ret2
    exact ⟨rfl, rfl⟩
theorem countAhead_ret (a b k : Int) (w : World) : Calls Try.prog 33 #[.int .i64 a, .int .i64 b, .int .i64 k] w (Ret w (.tuple #[.int .i64 (aheadV a b k), .bool (allOk a b k)])) :=
  (countAhead_any a b k w).mono fun _ _ ⟨h1, h2⟩ => ⟨h1, h2 ▸ Below.refl _ _⟩
theorem countNever_ret (a b k : Int) (w : World) : Calls Try.prog 35 #[.int .i64 a, .int .i64 b, .int .i64 k] w (Ret w (.tuple #[.int .i64 (neverV a b k), .bool (allOk a b k)])) :=
  (countNever_any a b k w).mono fun _ _ ⟨h1, h2⟩ => ⟨h1, h2 ▸ Below.refl _ _⟩
/-! ### the model -/
set_option maxHeartbeats 400000 in
theorem numbers_any (a b k : Int) (w : World) : Calls Try.prog 63 #[.int .i64 a, .int .i64 b, .int .i64 k] w fun e w' => e = .returned (.bool (allOk a b k)) ∧ w = w' := by
  have HO : Hid (allOk a b k = (cntOk a b && inK k)) := by unfold Hid allOk; rw [Bool.and_comm]
  rw [HO.out]
  clear HO
  rcases Bool.eq_false_or_eq_true (cntOk a b) with h1 | h1
  · rw [h1]
    rcases Bool.eq_false_or_eq_true (inK k) with h2 | h2
    all_goals
      rw [h2]
      go_enter Try.func63, Try.ntmps63
      go_wp2_with (first | (go_at_call 84; refine (steps_any _ _ _).mono ?_; rintro e w' ⟨rfl, rfl⟩; rw [h1]) | (go_at_call 78; refine (in_any _ _ _ _).mono ?_; rintro e w' ⟨rfl, rfl⟩; rw [inB_k, h2]))
      go_ret
      exact ⟨rfl, rfl⟩
  · rw [h1]
    go_enter Try.func63, Try.ntmps63
    go_wp2_with (go_at_call 84; refine (steps_any _ _ _).mono ?_; rintro e w' ⟨rfl, rfl⟩; rw [h1])
    go_ret
    exact ⟨rfl, rfl⟩
theorem cntV_chZ {a b k : Int} (h : Asked a b k) : cntV a b = chZ (a + b) a := by
  unfold cntV; rw [cntOk_yes ⟨h.a0, h.b0, h.ab⟩]; rfl
set_option maxHeartbeats 400000 in
theorem baAhead_ret (a b k : Int) (w : World) (h : Asked a b k) : Calls Try.prog 64 #[.int .i64 a, .int .i64 b, .int .i64 k] w (Ret w (.int .i64 (aheadN (cntV a b) a b k))) := by
  have hkb := h.kb
  have hcb := cntV_bd a b
  have HC : Hid (∀ w, Calls Try.prog 68 #[.int .i64 (a + b), .int .i64 a] w (Ret w (.int .i64 (cntV a b)))) := Lib.hid fun w => by rw [cntV_chZ h]; exact choose_ret _ _ w (by have := h.ab; omega)
  obtain ⟨h1, h2, h3, h4, h5⟩ := h
  generalize cntV a b = c at *
  by_cases hlt : a < k * b
  · rw [aheadN_1 hlt]
    have i0 : (a + b == 0) = false := by
      have : a + b ≠ 0 := by
        intro e
        obtain rfl : b = 0 := by omega
        omega
      simpa using this
    go_enter Try.func64, Try.ntmps64
    go_wp2
    go_ret
    exact ⟨rfl, Below.refl _ _⟩
  · by_cases h0 : a + b = 0
    · rw [aheadN_2 hlt h0]
      have i0 : (a + b == 0) = true := by simpa using h0
      clear h0
      go_enter Try.func64, Try.ntmps64
      go_wp2
      go_ret
      exact ⟨rfl, Below.refl _ _⟩
    · rw [aheadN_3 hlt h0]
      have i0 : (a + b == 0) = false := by simpa using h0
      have i1 : 1 ≤ a + b := by omega
      clear h0
      have hm := mul_bd hcb (show 0 ≤ a - k * b ∧ a - k * b ≤ 41 by omega)
      go_enter Try.func64, Try.ntmps64
      go_wp2_with (go_at_call 68; refine (HC.out _).mono ?_; rintro e w1 ⟨rfl, hb⟩)
      go_ret
      exact ⟨rfl, hb⟩
set_option maxHeartbeats 400000 in
theorem baNever_ret (a b k : Int) (w : World) (h : Asked a b k) : Calls Try.prog 66 #[.int .i64 a, .int .i64 b, .int .i64 k] w (Ret w (.int .i64 (neverN (cntV a b) a b k))) := by
  have hkb := h.kb
  have hcb := cntV_bd a b
  have HC : Hid (∀ w, Calls Try.prog 68 #[.int .i64 (a + b), .int .i64 a] w (Ret w (.int .i64 (cntV a b)))) := Lib.hid fun w => by rw [cntV_chZ h]; exact choose_ret _ _ w (by have := h.ab; omega)
  obtain ⟨h1, h2, h3, h4, h5⟩ := h
  generalize cntV a b = c at *
  by_cases hlt : a < k * b
  · rw [neverN_1 hlt]
    go_enter Try.func66, Try.ntmps66
    go_wp2
    go_ret
    exact ⟨rfl, Below.refl _ _⟩
  · rw [neverN_2 hlt]
    have hm := mul_bd hcb (show 0 ≤ a + 1 - k * b ∧ a + 1 - k * b ≤ 41 by omega)
    go_enter Try.func66, Try.ntmps66
    go_wp2_with (go_at_call 68; refine (HC.out _).mono ?_; rintro e w1 ⟨rfl, hb⟩)
    go_ret
    exact ⟨rfl, hb⟩
set_option maxHeartbeats 400000 in
theorem specCountAhead_ret (a b k : Int) (w : World) : Calls Try.prog 32 #[.int .i64 a, .int .i64 b, .int .i64 k] w (Ret w (.tuple #[.int .i64 (aheadV a b k), .bool (allOk a b k)])) := by
  rcases Bool.eq_false_or_eq_true (allOk a b k) with hp | hp
  · have HC : Hid (∀ w, Calls Try.prog 64 #[.int .i64 a, .int .i64 b, .int .i64 k] w (Ret w (.int .i64 (aheadV a b k)))) := Lib.hid fun w => by rw [aheadV_yes hp]; exact baAhead_ret a b k w (allOk_of hp)
    rw [hp]
    go_enter Try.func32, Try.ntmps32
    go_wp2_with (first | (go_at_call 63; refine (numbers_any a b k _).mono ?_; rintro e w' ⟨rfl, rfl⟩; rw [hp]) | (go_at_call 64; refine (HC.out _).mono ?_; rintro e w1 ⟨rfl, hb⟩))
    go_ret2
    exact ⟨rfl, hb⟩
  · rw [aheadV_no hp, hp]
    go_enter Try.func32, Try.ntmps32
    go_wp2_with (go_at_call 63; refine (numbers_any a b k _).mono ?_; rintro e w' ⟨rfl, rfl⟩; rw [hp])
    go_ret2
    exact ⟨rfl, Below.refl _ _⟩
set_option maxHeartbeats 400000 in
theorem specCountNever_ret (a b k : Int) (w : World) : Calls Try.prog 34 #[.int .i64 a, .int .i64 b, .int .i64 k] w (Ret w (.tuple #[.int .i64 (neverV a b k), .bool (allOk a b k)])) := by
  rcases Bool.eq_false_or_eq_true (allOk a b k) with hp | hp
  · have HC : Hid (∀ w, Calls Try.prog 66 #[.int .i64 a, .int .i64 b, .int .i64 k] w (Ret w (.int .i64 (neverV a b k)))) := Lib.hid fun w => by rw [neverV_yes hp]; exact baNever_ret a b k w (allOk_of hp)
    rw [hp]
    go_enter Try.func34, Try.ntmps34
    go_wp2_with (first | (go_at_call 63; refine (numbers_any a b k _).mono ?_; rintro e w' ⟨rfl, rfl⟩; rw [hp]) | (go_at_call 66; refine (HC.out _).mono ?_; rintro e w1 ⟨rfl, hb⟩))
    go_ret2
    exact ⟨rfl, hb⟩
  · rw [neverV_no hp, hp]
    go_enter Try.func34, Try.ntmps34
    go_wp2_with (go_at_call 63; refine (numbers_any a b k _).mono ?_; rintro e w' ⟨rfl, rfl⟩; rw [hp])
    go_ret2
    exact ⟨rfl, Below.refl _ _⟩
end Go.Proofs.Ytcnggafbdjhagaa
