/- The path with a rank: plain lists. -/
import Derived.Test.YtdekjmbbogddgabChMath
namespace Go.Proofs.Ytdekjmbbogddgab
open Go.RowKit
/-- how many paths go down first -/
def downs (n u d : Nat) : Nat := if d = 0 then 0 else chs n u
/-- the steps of the path of u ups and d downs with the rank r; n = u + d -/
def por : Nat → Nat → Nat → Nat → List UInt8
  | 0, _, _, _ => []
  | n + 1, u, d, r => if r < downs n u d then 68 :: por n u (d - 1) r else 85 :: por n (u - 1) d (r - downs n u d)
theorem por_down {n u d r : Nat} (h : r < downs n u d) : por (n + 1) u d r = 68 :: por n u (d - 1) r := by rw [por, if_pos h]
theorem por_up {n u d r : Nat} (h : ¬ r < downs n u d) : por (n + 1) u d r = 85 :: por n (u - 1) d (r - downs n u d) := by rw [por, if_neg h]
/-- what stands still: so many steps, the rank among them -/
structure RankAt (n u d r : Nat) : Prop where
  sum : n = u + d
  small : n ≤ 40
  lt : r < chs n u
theorem RankAt.down {n u d r : Nat} (h : RankAt (n + 1) u d r) (hr : r < downs n u d) : 1 ≤ d ∧ RankAt n u (d - 1) r := by
  have hd : d ≠ 0 := by intro e; rw [downs, if_pos e] at hr; omega
  rw [downs, if_neg hd] at hr
  have := h.sum
  have := h.small
  exact ⟨by omega, by omega, by omega, hr⟩
theorem RankAt.up {n u d r : Nat} (h : RankAt (n + 1) u d r) (hr : ¬ r < downs n u d) : 1 ≤ u ∧ RankAt n (u - 1) d (r - downs n u d) := by
  have hs := h.sum
  have hm := h.small
  have hl := h.lt
  have hu : u ≠ 0 := by
    intro e
    subst e
    rw [chs_zero] at hl
    have hd : d ≠ 0 := by omega
    rw [downs, if_neg hd, chs_zero] at hr
    omega
  obtain ⟨v, rfl⟩ : ∃ v, u = v + 1 := ⟨u - 1, by omega⟩
  rw [chs_succ] at hl
  refine ⟨by omega, by omega, by omega, ?_⟩
  show r - downs n (v + 1) d < chs n v
  unfold downs at *
  by_cases hd : d = 0
  · rw [if_pos hd] at *
    rw [chs_lt n (v + 1) (by omega)] at hl
    omega
  · rw [if_neg hd] at *
    omega
theorem downs_le (n u d : Nat) (h : n ≤ 40) : downs n u d ≤ 1099511627776 := by
  unfold downs; split
  · omega
  · exact chs_small40 n u h
def porV (u d r : Int) : List UInt8 := por (u.toNat + d.toNat) u.toNat d.toNat r.toNat
def rankOk (u d r : Int) : Bool := cntOk u d && decide (0 ≤ r) && decide (r < cntV u d)
end Go.Proofs.Ytdekjmbbogddgab
