/- BackPath. -/
import Derived.Test.YtnlcainfkchieaaDoorTurn
namespace Go.Proofs.YtnlcainfkchieaaDoor
open Go.RowKit
/-- the list with the first k and the last k exchanged, each for the one across -/
def revTo (l : List UInt8) (k : Nat) : List UInt8 := (List.range l.length).map fun j => if j < k ∨ l.length - k ≤ j then l.getD (l.length - 1 - j) 0 else l.getD j 0
theorem revTo_length (l : List UInt8) (k : Nat) : (revTo l k).length = l.length := by simp [revTo]
theorem revTo_get (l : List UInt8) (k j : Nat) (h : j < l.length) : (revTo l k)[j]? = some (if j < k ∨ l.length - k ≤ j then l.getD (l.length - 1 - j) 0 else l.getD j 0) := by
  unfold revTo; rw [List.getElem?_map, List.getElem?_range h]; rfl
theorem revTo_zero (l : List UInt8) : revTo l 0 = l := by
  apply List.ext_getElem?
  intro j
  by_cases h : j < l.length
  · rw [revTo_get l 0 j h, if_neg (by omega), List.getD_eq_getElem?_getD, List.getElem?_eq_getElem h]; rfl
  · rw [List.getElem?_eq_none (by rw [revTo_length]; omega), List.getElem?_eq_none (by omega)]
theorem revTo_full (l : List UInt8) (k : Nat) (h : l.length ≤ 2 * k + 1) : revTo l k = l.reverse := by
  apply List.ext_getElem?
  intro j
  by_cases hj : j < l.length
  · rw [revTo_get l k j hj, List.getElem?_reverse hj]
    by_cases c : j < k ∨ l.length - k ≤ j
    · rw [if_pos c, List.getD_eq_getElem?_getD, List.getElem?_eq_getElem (by omega)]; rfl
    · rw [if_neg c]
      have : l.length - 1 - j = j := by omega
      rw [this, List.getD_eq_getElem?_getD, List.getElem?_eq_getElem hj]; rfl
  · rw [List.getElem?_eq_none (by rw [revTo_length]; omega), List.getElem?_eq_none (by simp; omega)]
theorem revTo_step (l : List UInt8) (k : Nat) (h : k < l.length - 1 - k) : ((revTo l k).set k (l.getD (l.length - 1 - k) 0)).set (l.length - 1 - k) (l.getD k 0) = revTo l (k + 1) := by
  apply List.ext_getElem?
  intro j
  by_cases hj : j < l.length
  · rw [revTo_get l (k + 1) j hj, List.getElem?_set, List.getElem?_set, List.length_set, revTo_length]
    by_cases e1 : l.length - 1 - k = j
    · rw [if_pos e1, if_pos (by omega), if_pos (by omega)]
      have : l.length - 1 - j = k := by omega
      rw [this]
    · rw [if_neg e1]
      by_cases e2 : k = j
      · rw [if_pos e2, if_pos (by omega), if_pos (by omega), e2]
      · rw [if_neg e2, revTo_get l k j hj]
        by_cases c : j < k ∨ l.length - k ≤ j
        · rw [if_pos c, if_pos (by omega)]
        · rw [if_neg c, if_neg (by omega)]
  · rw [List.getElem?_eq_none (by simp [revTo_length]; omega), List.getElem?_eq_none (by rw [revTo_length]; omega)]
theorem revTo_at (l : List UInt8) (k j : Nat) (hj : j < l.length) (h : ¬ (j < k ∨ l.length - k ≤ j)) (h' : j < (revTo l k).length) : (revTo l k)[j] = l.getD j 0 := by
  rw [(List.getElem_eq_iff h').2 (revTo_get l k j hj), if_neg h]
set_option maxHeartbeats 1000000 in
theorem reverse_any (xs : List UInt8) (B g c : Nat) (w : World) (h : BRow w B g xs) (h40 : xs.length ≤ 1000000) :
    Calls Tryd.prog 69 #[.slice (some ⟨g, 0, none⟩) xs.length c] w fun e w' => e = .returned (.tuple #[]) ∧ BRow w' B g xs.reverse ∧ Below B w w' := by
  generalize hn : xs.length = n at *
  have HN := Lib.hid hn
  have hsz := h.lt
  have hfr := h.from_
  go_enter Tryd.func69, Tryd.ntmps69
  clear hn
  go_wp2
  go_loopw [2, 3] (fun i j wr => ∃ k : Nat, 2 * k ≤ n + 1 ∧ i = .int .i64 (k : Int) ∧ j = .int .i64 ((n : Int) - 1 - k) ∧ BRow wr B g (revTo xs k) ∧ Below B w wr) (fun i _ _ => n + 1 - (intOf i).toNat)
  case atStart => exact ⟨0, by omega, rfl, by go_num, by rw [revTo_zero]; exact h, Below.refl _ _⟩
  case round =>
    obtain ⟨k, hk, rfl, rfl, hrow, hb⟩ := hrel
    have HL : Hid ((revTo xs k).length = n) := Lib.hid (by rw [revTo_length]; exact HN.out)
    by_cases hlt : k < n - 1 - k
    · obtain ⟨j, hj⟩ : ∃ j : Nat, j = n - 1 - k := ⟨_, rfl⟩
      have hji : (n : Int) - 1 - k = j := by omega
      rw [hji]
      have hkn : k < n := by omega
      have hjn : j < n := by omega
      have hkj : k < j := by omega
      have e1 := hrow.cell k (by rw [HL.out]; omega)
      have e2 := hrow.cell j (by rw [HL.out]; omega)
      rw [revTo_at xs k k (by rw [HN.out]; omega) (by rw [HN.out]; omega)] at e1
      rw [revTo_at xs k j (by rw [HN.out]; omega) (by rw [HN.out]; omega)] at e2
      have f1 := hrow.free k (by rw [HL.out]; omega)
      have f2 := hrow.free j (by rw [HL.out]; omega)
      have HST := Lib.hid ((hrow.set k (xs.getD (xs.length - 1 - k) 0) (by rw [HL.out]; omega)).set (xs.length - 1 - k) (xs.getD k 0) (by rw [List.length_set, HL.out, HN.out]; omega))
      have HX := Lib.hid (revTo_step xs k (by rw [HN.out]; omega))
      have HJ := Lib.hid hj
      have HJI := Lib.hid hji
      clear hj hji
      have i1 : (k : Int) < (n : Int) := by omega
      have i2 : (j : Int) < (n : Int) := by omega
      go_wp2
      go_region
      go_wp2
      have hst := HST.out
      rw [HX.out] at hst
      have e : xs.length - 1 - k = j := by rw [HN.out]; exact HJ.out.symm
      rw [e, List.getD_eq_getElem?_getD, List.getD_eq_getElem?_getD] at hst
      go_roundw
      case rel =>
        exact ⟨k + 1, by omega, by go_num, by have := HJI.out; go_num, hst.drew, ((hb.setCell hfr _).setCell hfr _).drew⟩
      case measure => simp [intOf]; omega
    · go_wp2
      go_end0
      refine ⟨rfl, ?_, hb⟩
      rw [← revTo_full xs k (by rw [HN.out]; omega)]
      exact hrow
def backS (s : ByteArray) : ByteArray := strOf (turnS s).data.toList.reverse
def backV (s : ByteArray) : ByteArray := if pathB s then backS s else strOf []
theorem backV_is (s : ByteArray) : strOf (turnV s).data.toList.reverse = backV s := by
  unfold backV turnV
  split
  · rfl
  · rw [strOf_list]; rfl
theorem turnV_size (s : ByteArray) : (turnV s).size ≤ 40 := by
  unfold turnV
  split
  · rename_i h; rw [turnS_size]; exact ((pathB_iff s).1 h).1
  · rw [strOf_size]; simp
end Go.Proofs.YtnlcainfkchieaaDoor
