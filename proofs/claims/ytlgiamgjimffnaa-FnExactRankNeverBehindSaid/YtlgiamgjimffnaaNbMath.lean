/- Paths that are never behind, or always ahead: the ways at the beginning are the formula's number. -/
import Derived.Test.YtlgiamgjimffnaaPorMath
namespace Go.Proofs.Ytlgiamgjimffnaa
open Go.RowKit
theorem WV_all (x y : Nat) (k l : Int) : WV x y k l x y = (rsR k l (x + y) x y : Nat) := by
  unfold WV wv
  rw [if_neg (by omega), if_pos ⟨rfl, rfl⟩]
theorem cnt_nat {x y : Nat} (h : x + y ≤ 40) : cntV (x : Int) (y : Int) = ((chs (x + y) x : Nat) : Int) := by
  unfold cntV cntOk
  rw [if_pos (by simp; omega)]
  have := chZ_nat (x + y) x
  rw [← this]
  simp
theorem WV_never {x y : Nat} {k : Int} (hk : 1 ≤ k) (h : x + y ≤ 40) : WV x y k 0 x y = neverN (cntV x y) x y k := by
  obtain ⟨z, rfl⟩ := Int.eq_ofNat_of_zero_le (show 0 ≤ k by omega)
  rw [WV_all, cnt_nat h]
  exact (never_form z x y).symm
theorem WV_ahead {x y : Nat} {k : Int} (hk : 1 ≤ k) (h : x + y ≤ 40) : WV x y k 1 x y = aheadN (cntV x y) x y k := by
  obtain ⟨z, rfl⟩ := Int.eq_ofNat_of_zero_le (show 0 ≤ k by omega)
  rw [WV_all, cnt_nat h]
  exact (ahead_form z x y (by omega)).symm
/-- the ways behind a D, as the table has them -/
theorem WV_down {x y : Nat} {k : Int} {u d : Nat} (hd : d + 1 ≤ y) : WV x y k 0 u d = wayV u d k (leadV x y k u (d + 1) - k) d u := by
  unfold WV wv wayV
  rw [if_neg (by omega), if_neg (by omega), Int.toNat_natCast, Int.toNat_natCast]
  have e : leadV x y k (u : Int) (d : Int) = atM u d k (leadV x y k u ((d : Int) + 1) - k) d u := by
    have := lead_down x y k (u : Int) ((d : Int) + 1)
    rw [show (d : Int) + 1 - 1 = d by omega] at this
    unfold atM
    rw [← this]
    simp
  rw [e]
theorem WV_none {x y : Nat} {k u d : Int} (hd : d ≤ y) (h : d ≤ 0 ∨ leadV x y k u d < k) : WV x y k 0 u (d - 1) = 0 := by
  rcases h with h | h
  · exact WV_neg (.inr (by omega))
  · unfold WV
    rw [wv_low (by omega) (by rw [lead_down]; omega)]; rfl
/-- the lead is not below where there are ways on -/
theorem lead_ok {x y : Nat} {k u d : Int} (h : 0 < WV x y k 0 u d) : 0 ≤ leadV x y k u d := by
  by_cases e : u = x ∧ d = y
  · rw [e.1, e.2, lead_all]; omega
  · by_cases hl : leadV x y k u d < 0
    · unfold WV at h; rw [wv_low e hl] at h; simp at h
    · omega
theorem lead_bd {x y : Nat} {k u d : Int} (hk : 1 ≤ k ∧ k ≤ 5) (hxy : x + y ≤ 40) (hu : 0 ≤ u ∧ u ≤ x) (hd : 0 ≤ d ∧ d ≤ y) : -200 ≤ leadV x y k u d ∧ leadV x y k u d ≤ 40 := by
  have := kmul_bd hk.1 hk.2 (show 0 ≤ (y : Int) - d by omega) (by omega)
  unfold leadV; omega
def nbOk (a b k r : Int) : Bool := inK k && cntOk a b && (decide (0 ≤ r) && decide (r < neverN (cntV a b) a b k))
def nbS (a b k r : Int) : ByteArray := if nbOk a b k r then ⟨(porB (WV a.toNat b.toNat k 0) (a.toNat + b.toNat) a b r).toArray⟩ else ⟨#[]⟩
theorem nbOk_rk {x y : Nat} {k r : Int} (hk : 1 ≤ k ∧ k ≤ 5) (h : x + y ≤ 40) : nbOk x y k r = rkOk x y k 0 r := by
  unfold nbOk rkOk
  rw [inK_yes hk, WV_never hk.1 h]
  have : cntOk (x : Int) (y : Int) = true := by unfold cntOk; simp; omega
  rw [this]; rfl
theorem nbS_rk {x y : Nat} {k r : Int} (hk : 1 ≤ k ∧ k ≤ 5) (h : x + y ≤ 40) : nbS x y k r = rkS x y k 0 r := by
  unfold nbS rkS
  rw [nbOk_rk hk h, Int.toNat_natCast, Int.toNat_natCast]
end Go.Proofs.Ytlgiamgjimffnaa
