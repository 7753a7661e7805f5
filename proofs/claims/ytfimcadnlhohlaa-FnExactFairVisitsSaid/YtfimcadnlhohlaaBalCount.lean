/- CountAhead, CountNeverBehind: by the formula. -/
import Derived.Test.YtfimcadnlhohlaaLeads
import Derived.Test.YtfimcadnlhohlaaChoose
namespace Go.Proofs.Ytfimcadnlhohlaa
open Go.RowKit
def allOk (a b k : Int) : Bool := inK k && cntOk a b
def allV (a b k : Int) : Int := if allOk a b k then cntV a b else 0
def aheadV (a b k : Int) : Int := if allOk a b k then aheadN (cntV a b) a b k else 0
def neverV (a b k : Int) : Int := if allOk a b k then neverN (cntV a b) a b k else 0
/-- numbers that are asked for -/
structure Asked (a b k : Int) : Prop where
  a0 : 0 ≤ a
  b0 : 0 ≤ b
  ab : a + b ≤ 40
  k1 : 1 ≤ k
  k5 : k ≤ 5
theorem allOk_of {a b k : Int} (h : allOk a b k = true) : Asked a b k := by
  unfold allOk at h
  rw [Bool.and_eq_true] at h
  have h1 := inK_of h.1
  have h2 := h.2
  simp [cntOk] at h2
  exact ⟨h2.1.1, h2.1.2, h2.2, h1.1, h1.2⟩
theorem Asked.ok {a b k : Int} (h : Asked a b k) : allOk a b k = true := by
  unfold allOk
  rw [inK_yes ⟨h.k1, h.k5⟩, cntOk_yes ⟨h.a0, h.b0, h.ab⟩]; rfl
theorem Asked.kb {a b k : Int} (h : Asked a b k) : 0 ≤ k * b ∧ k * b ≤ 200 := by
  have h1 := h.a0
  have h2 := h.b0
  have h3 := h.ab
  have h4 := h.k1
  have h5 := h.k5
  refine ⟨Int.mul_nonneg (by omega) h2, ?_⟩
  have := Int.mul_le_mul h5 (show b ≤ 40 by omega) h2 (by omega)
  omega
theorem mul_bd {c x : Int} (hc : 0 ≤ c ∧ c ≤ 1099511627776) (hx : 0 ≤ x ∧ x ≤ 41) : 0 ≤ c * x ∧ c * x ≤ 45079976738816 := by
  refine ⟨Int.mul_nonneg hc.1 hx.1, ?_⟩
  have := Int.mul_le_mul hc.2 hx.2 hx.1 (by omega)
  omega
theorem inB_k (k : Int) : inB k 1 5 = inK k := rfl
theorem allV_yes {a b k : Int} (h : allOk a b k = true) : allV a b k = cntV a b := by unfold allV; rw [if_pos h]
theorem allV_no {a b k : Int} (h : allOk a b k = false) : allV a b k = 0 := by unfold allV; rw [h]; rfl
theorem aheadV_yes {a b k : Int} (h : allOk a b k = true) : aheadV a b k = aheadN (cntV a b) a b k := by unfold aheadV; rw [if_pos h]
theorem aheadV_no {a b k : Int} (h : allOk a b k = false) : aheadV a b k = 0 := by unfold aheadV; rw [h]; rfl
theorem neverV_yes {a b k : Int} (h : allOk a b k = true) : neverV a b k = neverN (cntV a b) a b k := by unfold neverV; rw [if_pos h]
theorem neverV_no {a b k : Int} (h : allOk a b k = false) : neverV a b k = 0 := by unfold neverV; rw [h]; rfl
theorem aheadN_1 {c a b k : Int} (h : a < k * b) : aheadN c a b k = 0 := by unfold aheadN; rw [if_pos h]
theorem aheadN_2 {c a b k : Int} (h : ¬ a < k * b) (h0 : a + b = 0) : aheadN c a b k = 1 := by unfold aheadN; rw [if_neg h, if_pos h0]
theorem aheadN_3 {c a b k : Int} (h : ¬ a < k * b) (h0 : a + b ≠ 0) : aheadN c a b k = c * (a - k * b) / (a + b) := by unfold aheadN; rw [if_neg h, if_neg h0]
theorem neverN_1 {c a b k : Int} (h : a < k * b) : neverN c a b k = 0 := by unfold neverN; rw [if_pos h]
theorem neverN_2 {c a b k : Int} (h : ¬ a < k * b) : neverN c a b k = c * (a + 1 - k * b) / (a + 1) := by unfold neverN; rw [if_neg h]
/-! ### the model -/
theorem cntV_chZ {a b k : Int} (h : Asked a b k) : cntV a b = chZ (a + b) a := by
  unfold cntV; rw [cntOk_yes ⟨h.a0, h.b0, h.ab⟩]; rfl
end Go.Proofs.Ytfimcadnlhohlaa
