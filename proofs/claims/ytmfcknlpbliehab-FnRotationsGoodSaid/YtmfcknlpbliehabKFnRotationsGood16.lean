/- Pack 16 of what FnRotationsGood needs: LeastMost, Scalars. -/
import Derived.Test.YtmfcknlpbliehabKFnRotationsGood15
/- l1Least, l1Most. -/
namespace Go.Proofs.Ytmfcknlpbliehab
open Go.RowKit
end Go.Proofs.Ytmfcknlpbliehab

/- The functions that hand back one number of a path: ends, least and greatest heights, sums. -/
namespace Go.Proofs.Ytmfcknlpbliehab
open Go.RowKit

theorem hts_at {s : ByteArray} {w : World} {B g n c : Nat} (h : IRow w B (.slice (some ⟨g, 0, none⟩) n c) (hts s)) (j : Nat) (hj : j ≤ s.size) : w.cell? ⟨g, j, none⟩ = some (.int .i64 (hAt s j)) := by
  have := h.cell (j := j) (by rw [hts_length]; omega)
  rw [List.getD_eq_getElem?_getD, hts_get s j hj] at this
  exact this

/-! ### the end -/
def endV (s : ByteArray) : Int := if pathB s then hAt s s.size else 0
/-! ### the least, the greatest -/
def minTo (s : ByteArray) : Nat → Int
  | 0 => 0
  | k + 1 => if hAt s (k + 1) < minTo s k then hAt s (k + 1) else minTo s k
def maxTo (s : ByteArray) : Nat → Int
  | 0 => 0
  | k + 1 => if maxTo s k < hAt s (k + 1) then hAt s (k + 1) else maxTo s k
theorem minTo_bd (s : ByteArray) : ∀ k, k ≤ s.size → -(k : Int) ≤ minTo s k ∧ minTo s k ≤ 0 := by
  intro k
  induction k with
  | zero => intro _; simp [minTo]
  | succ k ih =>
    intro h
    have h1 := ih (by omega)
    have h2 := hAt_bd s (k + 1) h
    unfold minTo
    split <;> omega
set_option maxHeartbeats 400000 in
theorem min_ret (s : ByteArray) (w : World) (g c : Nat) (h40 : s.size ≤ 40) (B : Nat) (hr : IRow w B (.slice (some ⟨g, 0, none⟩) (s.size + 1) c) (hts s)) :
    Calls Try.prog 37 #[.slice (some ⟨g, 0, none⟩) (s.size + 1) c] w fun e w' => e = .returned (.int .i64 (minTo s s.size)) ∧ w = w' := by
  have hc0 := hts_at hr 0 (by omega)
  have i0 : ¬ (s.size : Int) + 1 < 1 := by omega
  go_enter Try.func37, Try.ntmps37
  go_wp2
  go_loop [3, 4] (fun u i => ∃ k : Nat, k ≤ s.size ∧ i = .int .i64 ((k : Int) + 1) ∧ u = .int .i64 (minTo s k)) (fun _ i => s.size + 1 - (intOf i).toNat)
  case atStart => exact ⟨0, Nat.zero_le _, rfl, by rw [hAt_zero]; rfl⟩
  case round =>
    obtain ⟨k, hk, rfl, rfl⟩ := hrel
    by_cases hlt : k < s.size
    · have hc := hts_at hr (k + 1) (by omega)
      go_wp2
      go_round
      case rel => exact ⟨k + 1, by omega, by go_num, rfl⟩
      case measure => simp [intOf]; omega
    · go_wp2
      obtain rfl : k = s.size := by omega
      go_ret
      exact ⟨rfl, rfl⟩

def lowV (s : ByteArray) : Int := if pathB s then minTo s s.size else 0
theorem lowV_yes {s : ByteArray} (h : pathB s = true) : lowV s = minTo s s.size := by unfold lowV; rw [if_pos h]
theorem lowV_no {s : ByteArray} (h : pathB s = false) : lowV s = 0 := by unfold lowV; rw [h]; rfl
theorem endV_yes {s : ByteArray} (h : pathB s = true) : endV s = hAt s s.size := by unfold endV; rw [if_pos h]
theorem endV_no {s : ByteArray} (h : pathB s = false) : endV s = 0 := by unfold endV; rw [h]; rfl
end Go.Proofs.Ytmfcknlpbliehab
