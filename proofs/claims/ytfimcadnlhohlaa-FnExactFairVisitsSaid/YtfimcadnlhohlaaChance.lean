/- ChanceAhead, ChanceNeverBehind. -/
import Derived.Test.YtfimcadnlhohlaaBalCount
import Derived.Test.YtfimcadnlhohlaaRatio
namespace Go.Proofs.Ytfimcadnlhohlaa
open Go.RowKit
theorem aheadN_bd {c a b k : Int} (hc : 0 ≤ c ∧ c ≤ 1099511627776) (h : Asked a b k) : 0 ≤ aheadN c a b k ∧ aheadN c a b k ≤ 70368744177664 := by
  have hkb := h.kb
  have h1 := h.a0
  have h2 := h.b0
  have h3 := h.ab
  unfold aheadN
  split
  · omega
  · split
    · omega
    · have hm := mul_bd hc (show 0 ≤ a - k * b ∧ a - k * b ≤ 41 by omega)
      refine ⟨Int.ediv_nonneg hm.1 (by omega), ?_⟩
      have := Int.ediv_le_self (b := a + b) hm.1
      omega
theorem neverN_bd {c a b k : Int} (hc : 0 ≤ c ∧ c ≤ 1099511627776) (h : Asked a b k) : 0 ≤ neverN c a b k ∧ neverN c a b k ≤ 70368744177664 := by
  have hkb := h.kb
  have h1 := h.a0
  have h2 := h.b0
  have h3 := h.ab
  unfold neverN
  split
  · omega
  · have hm := mul_bd hc (show 0 ≤ a + 1 - k * b ∧ a + 1 - k * b ≤ 41 by omega)
    refine ⟨Int.ediv_nonneg hm.1 (by omega), ?_⟩
    have := Int.ediv_le_self (b := a + 1) hm.1
    omega
theorem cntV_pos {a b k : Int} (h : Asked a b k) : 0 < cntV a b := by
  have h1 := h.a0
  have h2 := h.b0
  have h3 := h.ab
  obtain ⟨u, rfl⟩ := Int.eq_ofNat_of_zero_le h1
  obtain ⟨d, rfl⟩ := Int.eq_ofNat_of_zero_le h2
  have := chs_pos (d + u) u (by omega)
  rw [cntV_yes (by omega)]
  omega
/-- the chance: numerator, denominator -/
def chanceP (n a b k : Int) : Int := if allOk a b k then numR n.toNat (cntV a b).toNat else 0
def chanceQ (n a b k : Int) : Int := if allOk a b k then denR n.toNat (cntV a b).toNat else 0
theorem chanceP_yes {n a b k : Int} (h : allOk a b k = true) : chanceP n a b k = numR n.toNat (cntV a b).toNat := by unfold chanceP; rw [if_pos h]
theorem chanceP_no {n a b k : Int} (h : allOk a b k = false) : chanceP n a b k = 0 := by unfold chanceP; rw [h]; rfl
theorem chanceQ_yes {n a b k : Int} (h : allOk a b k = true) : chanceQ n a b k = denR n.toNat (cntV a b).toNat := by unfold chanceQ; rw [if_pos h]
theorem chanceQ_no {n a b k : Int} (h : allOk a b k = false) : chanceQ n a b k = 0 := by unfold chanceQ; rw [h]; rfl
theorem below_two {w w1 : World} {o : Obj} (h : Below (w.alloc o).heap.size (w.alloc o) w1) : Below w.heap.size w w1 := ((Below.refl _ _).alloc (Nat.le_refl _) _).trans (h.mono (by simp))
theorem bcell {W w1 : World} {B : Nat} (hb : Below B W w1) : (∀ b o, b < B → w1.cell? ⟨b, o, none⟩ = W.cell? ⟨b, o, none⟩) ∧ (∀ b o, b < B → w1.frozen? ⟨b, o, none⟩ = W.frozen? ⟨b, o, none⟩) :=
  ⟨fun b o h => hb.cell (p := ⟨b, o, none⟩) h, fun b o h => hb.frozen (p := ⟨b, o, none⟩) h⟩

end Go.Proofs.Ytfimcadnlhohlaa
