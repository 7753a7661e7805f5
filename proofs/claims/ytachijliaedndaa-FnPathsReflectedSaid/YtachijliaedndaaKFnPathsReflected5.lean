/- Pack 5 of what FnPathsReflected needs: Lists, Counts. -/
import Derived.Test.YtachijliaedndaaKFnPathsReflected4
import Derived.Deep.QuietTactic
import Derived.BigQuiet
/- eqIntS, markIntS, heldIntS: the laws' own helpers on slices of ints. -/
namespace Go.Proofs.Ytachijliaedndaa
open Go.RowKit

/-- the numbers m, m+1, .. -/
def marks (m : Int) (n : Nat) : List Int := (List.range n).map fun j => m + (j : Nat)
theorem marks_length (m : Int) (n : Nat) : (marks m n).length = n := by simp [marks]
theorem marks_get (m : Int) (n k : Nat) (h : k < n) : (marks m n).getD k 0 = m + k := by
  unfold marks; rw [List.getD_eq_getElem?_getD, List.getElem?_map, List.getElem?_range h]; rfl
/-- the first k are marked -/
def Marked (ys : List Int) (m : Int) (n k : Nat) : Prop := ys.length = n ∧ ∀ j, j < k → ys.getD j 0 = m + (j : Nat)
theorem Marked.zero {ys : List Int} {n : Nat} (m : Int) (h : ys.length = n) : Marked ys m n 0 := ⟨h, fun _ h => absurd h (by omega)⟩
theorem Marked.succ {ys : List Int} {m : Int} {n k : Nat} (h : Marked ys m n k) (hk : k < n) : Marked (ys.set k (m + (k : Nat))) m n (k + 1) := by
  refine ⟨by rw [List.length_set]; exact h.1, fun j hj => ?_⟩
  rw [List.getD_eq_getElem?_getD, List.getElem?_set]
  by_cases e : k = j
  · subst e; rw [if_pos rfl, if_pos (by rw [h.1]; exact hk)]; rfl
  · rw [if_neg e, ← List.getD_eq_getElem?_getD]; exact h.2 j (by omega)
theorem Marked.full {ys : List Int} {m : Int} {n k : Nat} (h : Marked ys m n k) (hk : k = n) : ys = marks m n := by
  subst hk
  apply List.ext_getElem
  · rw [h.1, marks_length]
  · intro j h1 h2
    have a := h.2 j (by rw [h.1] at h1; exact h1)
    have b := marks_get m k j (by rw [h.1] at h1; exact h1)
    rw [List.getD_eq_getElem?_getD, List.getElem?_eq_getElem h1] at a
    rw [List.getD_eq_getElem?_getD, List.getElem?_eq_getElem h2] at b
    simp at a b
    rw [a, b]

theorem grown_trans' {a b c : World} {r : Option Nat} (h : a.grownBy b r) (k : b.grownBy c r) : a.grownBy c r :=
  ⟨k.os.trans h.os, k.tape.trans h.tape, k.output.trans h.output, Nat.le_trans h.size k.size, fun i hi hn => (k.block i (Nat.lt_of_lt_of_le hi h.size) hn).trans (h.block i hi hn)⟩
theorem grown_refl' (w : World) (r : Option Nat) : w.grownBy w r := ⟨rfl, rfl, rfl, Nat.le_refl _, fun _ _ _ => rfl⟩

end Go.Proofs.Ytachijliaedndaa

/- CountPaths; paChoose, the numbers of ways to choose. -/
namespace Go.Proofs.Ytachijliaedndaa
open Go.RowKit
theorem cntOk_yes {u d : Int} (h : 0 ≤ u ∧ 0 ≤ d ∧ u + d ≤ 40) : cntOk u d = true := by simp [cntOk, h]
theorem cntOk_no {u d : Int} (h : ¬ (0 ≤ u ∧ 0 ≤ d ∧ u + d ≤ 40)) : cntOk u d = false := by
  rw [Bool.eq_false_iff]
  intro e
  simp [cntOk] at e
  exact h ⟨e.1.1, e.1.2, e.2⟩
theorem cntV_yes {u d : Nat} (h : u + d ≤ 40) : cntV u d = (chs (d + u) u : Nat) := by
  unfold cntV
  rw [cntOk_yes (by omega), if_pos rfl]
  have := chZ_nat (u + d) u
  rw [Nat.add_comm d u, ← this]
  rfl
theorem cntV_no {u d : Int} (h : ¬ (0 ≤ u ∧ 0 ≤ d ∧ u + d ≤ 40)) : cntV u d = 0 := by unfold cntV; rw [cntOk_no h]; rfl
set_option maxHeartbeats 400000 in
theorem count_no (u d : Int) (w : World) (h : ¬ (0 ≤ u ∧ 0 ≤ d ∧ u + d ≤ 40)) :
    Calls Try.prog 71 #[.int .i64 u, .int .i64 d] w fun e w' => e = .returned (.tuple #[.int .i64 0, .bool false]) ∧ w = w' := by
  by_cases h1 : u < 0
  · go_enter Try.func71, Try.ntmps71
    go_wp2
    go_ret2
    exact ⟨rfl, rfl⟩
  · by_cases h2 : d < 0
    · go_enter Try.func71, Try.ntmps71
      go_wp2
      go_ret2
      exact ⟨rfl, rfl⟩
    · by_cases h3 : 40 < u
      · go_enter Try.func71, Try.ntmps71
        go_wp2
        go_ret2
        exact ⟨rfl, rfl⟩
      · have h4 : 40 - u < d := by omega
        clear h
        go_enter Try.func71, Try.ntmps71
        go_wp2
        go_ret2
        exact ⟨rfl, rfl⟩
set_option maxHeartbeats 400000 in
theorem count_yes (u d : Nat) (w : World) (h : u + d ≤ 40) :
    Calls Try.prog 71 #[.int .i64 u, .int .i64 d] w fun e w' => e = .returned (.tuple #[.int .i64 (chs (d + u) u : Nat), .bool true]) ∧ w = w' := by
  have h1 : ¬ (u : Int) < 0 := by omega
  have h2 : ¬ (d : Int) < 0 := by omega
  have h3 : ¬ 40 < (u : Int) := by omega
  have h4 : ¬ 40 - (u : Int) < d := by omega
  go_enter Try.func71, Try.ntmps71
  go_wp2
  go_loop [6, 7] (fun c i => ∃ k : Nat, k ≤ u ∧ i = .int .i64 ((k : Int) + 1) ∧ c = .int .i64 (chs (d + k) k : Nat)) (fun _ i => u + 1 - (intOf i).toNat)
  case atStart => exact ⟨0, by omega, rfl, by rw [chs_zero]; rfl⟩
  case round =>
    obtain ⟨k, hk, rfl, rfl⟩ := hrel
    by_cases hlt : k < u
    · have hs := chs_small40 (d + k) k (by omega)
      have HM := Lib.hid (chs_mul d k)
      generalize hc : chs (d + k) k = c at *
      have HC := Lib.hid hc
      clear hc
      have hmul : 0 ≤ (c : Int) * ((d : Int) + ((k : Int) + 1)) ∧ (c : Int) * ((d : Int) + ((k : Int) + 1)) ≤ 9223372036854775807 := by
        have e : (c : Int) * ((d : Int) + ((k : Int) + 1)) = ((c * (d + (k + 1)) : Nat) : Int) := by simp
        rw [e]
        have := Nat.mul_le_mul hs (show d + (k + 1) ≤ 41 by omega)
        omega
      go_wp2
      go_round
      case rel => exact ⟨k + 1, by omega, by go_num, by rw [← HM.out]; go_num⟩
      case measure => simp [intOf]; omega
    · go_wp2
      obtain rfl : k = u := by omega
      go_ret2
      exact ⟨rfl, rfl⟩
theorem count_ret (u d : Int) (w : World) :
    Calls Try.prog 71 #[.int .i64 u, .int .i64 d] w fun e w' => e = .returned (.tuple #[.int .i64 (cntV u d), .bool (cntOk u d)]) ∧ w = w' := by
  by_cases h : 0 ≤ u ∧ 0 ≤ d ∧ u + d ≤ 40
  · obtain ⟨hu0, hd0, hs⟩ := h
    obtain ⟨a, rfl⟩ := Int.eq_ofNat_of_zero_le hu0
    obtain ⟨b, rfl⟩ := Int.eq_ofNat_of_zero_le hd0
    rw [cntOk_yes ⟨hu0, hd0, hs⟩, cntV_yes (by omega)]
    exact count_yes a b w (by omega)
  · rw [cntOk_no h, cntV_no h]
    exact count_no u d w h
end Go.Proofs.Ytachijliaedndaa
