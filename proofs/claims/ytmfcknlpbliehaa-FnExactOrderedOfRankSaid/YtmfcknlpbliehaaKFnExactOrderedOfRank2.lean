/- Pack 2 of what FnExactOrderedOfRank needs: Lists, LFnExactOrderedOfRank. -/
import Derived.Test.YtmfcknlpbliehaaKFnExactOrderedOfRank1
import Derived.Deep.QuietTactic
import Derived.BigQuiet
/- eqIntS, markIntS, heldIntS: the laws' own helpers on slices of ints. -/
namespace Go.Proofs.Ytmfcknlpbliehaa
open Go.RowKit

set_option maxHeartbeats 400000 in
theorem eqInts_same (v1 v2 : Value) (xs : List Int) (B1 B2 : Nat) (w : World) (h1 : IRow w B1 v1 xs) (h2 : IRow w B2 v2 xs) (hl : xs.length ≤ 1099511627776) :
    Calls Try.prog 7 #[v1, v2] w fun e w' => e = .returned (.bool true) ∧ ∃ n, w' = w.drewN n := by
  by_cases h0 : xs.length = 0
  · obtain ⟨A1, c1, rfl⟩ := h1.shape
    obtain ⟨A2, c2, rfl⟩ := h2.shape
    rw [h0]
    clear h1 h2
    go_enter Try.func7, Try.ntmps7
    go_wp2
    refine wp_loop_rounds 1 ?_; rw [rounds_succ]
    go_wp2
    go_ret
    exact ⟨rfl, 0, rfl⟩
  · obtain ⟨g1, c1, rfl, _, _⟩ := h1.form' rfl (by omega)
    obtain ⟨g2, c2, rfl, _, _⟩ := h2.form' rfl (by omega)
    have H1 := Lib.hid h1
    have H2 := Lib.hid h2
    clear h1 h2 h0
    generalize hn : xs.length = n at *
    have HN := Lib.hid hn
    clear hn
    go_enter Try.func7, Try.ntmps7
    go_wp2
    go_loopw [5] (fun i wr => ∃ k : Nat, k ≤ n ∧ i = .int .i64 k ∧ ∃ m, wr = w.drewN m) (fun i _ => n - (intOf i).toNat)
    case atStart => exact ⟨0, Nat.zero_le _, rfl, 0, rfl⟩
    case round =>
      obtain ⟨k, hk, rfl, m, rfl⟩ := hrel
      by_cases hlt : k < n
      · have e1 := H1.out.cell (j := k) (by rw [HN.out]; omega)
        have e2 := H2.out.cell (j := k) (by rw [HN.out]; omega)
        have i1 : (k : Int) < (n : Int) := by omega
        go_wp2
        go_quiet (fail)
        go_wp2
        go_roundw
        case rel => exact ⟨k + 1, by omega, by go_num, _, rfl⟩
        case measure => simp [intOf]; omega
      · go_wp2
        go_ret
        exact ⟨rfl, m, rfl⟩

/-- the numbers m, m+1, .. -/
def marks (m : Int) (n : Nat) : List Int := (List.range n).map fun j => m + (j : Nat)
theorem marks_length (m : Int) (n : Nat) : (marks m n).length = n := by simp [marks]
theorem marks_get (m : Int) (n k : Nat) (h : k < n) : (marks m n).getD k 0 = m + k := by
  unfold marks; rw [List.getD_eq_getElem?_getD, List.getElem?_map, List.getElem?_range h]; rfl
/-- the first k are marked -/
def Marked (ys : List Int) (m : Int) (n k : Nat) : Prop := ys.length = n ∧ ∀ j, j < k → ys.getD j 0 = m + (j : Nat)
theorem Marked.zero {ys : List Int} {n : Nat} (m : Int) (h : ys.length = n) : Marked ys m n 0 := ⟨h, fun _ h => absurd h (by omega)⟩
theorem Marked.succ {ys : List Int} {m : Int} {n k : Nat} (h : Marked ys m n k) (hk : k < n) : Marked (ys.set k (m + (k : Nat))) m n (k + 1) := by
  refine ⟨by rw [List.length_set]; exact h.1, fun j hj => ?_⟩
  rw [List.getD_eq_getElem?_getD, List.getElem?_set]
  by_cases e : k = j
  · subst e; rw [if_pos rfl, if_pos (by rw [h.1]; exact hk)]; rfl
  · rw [if_neg e, ← List.getD_eq_getElem?_getD]; exact h.2 j (by omega)
theorem Marked.full {ys : List Int} {m : Int} {n k : Nat} (h : Marked ys m n k) (hk : k = n) : ys = marks m n := by
  subst hk
  apply List.ext_getElem
  · rw [h.1, marks_length]
  · intro j h1 h2
    have a := h.2 j (by rw [h.1] at h1; exact h1)
    have b := marks_get m k j (by rw [h.1] at h1; exact h1)
    rw [List.getD_eq_getElem?_getD, List.getElem?_eq_getElem h1] at a
    rw [List.getD_eq_getElem?_getD, List.getElem?_eq_getElem h2] at b
    simp at a b
    rw [a, b]

theorem grown_trans' {a b c : World} {r : Option Nat} (h : a.grownBy b r) (k : b.grownBy c r) : a.grownBy c r :=
  ⟨k.os.trans h.os, k.tape.trans h.tape, k.output.trans h.output, Nat.le_trans h.size k.size, fun i hi hn => (k.block i (Nat.lt_of_lt_of_le hi h.size) hn).trans (h.block i hi hn)⟩
theorem grown_refl' (w : World) (r : Option Nat) : w.grownBy w r := ⟨rfl, rfl, rfl, Nat.le_refl _, fun _ _ _ => rfl⟩

end Go.Proofs.Ytmfcknlpbliehaa

/- The walk of FnExactOrderedOfRank: it asks the model and the program about copies of a list and holds the answers against each other. -/
namespace Go.Proofs.Ytmfcknlpbliehaa
open Go.RowKit
set_option maxHeartbeats 1000000 in
theorem wFnExactOrderedOfRank_main (v : Value) (xs : List Int) (a1 : Int) (ok : Bool) (x0 : ByteArray)
    (hS : Hid (∀ v w, RInts w v xs → Calls Try.prog 4 #[v, .int .i64 a1] w (Ret w (.tuple #[.string x0, .bool ok])))) (hI : Hid (∀ v w, RInts w v xs → Calls Try.prog 6 #[v, .int .i64 a1] w (Ret w (.tuple #[.string x0, .bool ok])))) (w : World) (h : RInts w v xs) (hl : xs.length ≤ 1048576) :
    Calls Try.prog 3 #[v, .int .i64 a1] w fun e w' => e = .returned (.bool true) ∧ Below w.heap.size w w' := by
  obtain ⟨A0, cap, rfl⟩ := h.shape
  have H := Lib.hid h
  clear h
  have hl' : ¬ (1048576 : Int) < (xs.length : Int) := by omega
  go_enter Try.func3, Try.ntmps3
  go_wp2_with fail
  refine (toIntS_any _ xs _ H.out hl).mono ?_
  rintro e w1 ⟨v1, rfl, hr1, hb1⟩
  go_wp2_with fail
  refine (hS.out v1 _ (RInts.of_row hr1)).mono ?_
  rintro e w2 ⟨rfl, hb2⟩
  have hbb2 := hb1.trans (hb2.mono hb1.size)
  clear hr1
  go_wp2_with fail
  refine (toIntS_any _ xs _ (H.out.below hbb2) hl).mono ?_
  rintro e w3 ⟨v3, rfl, hr3, hb3⟩
  have hbb3 := hbb2.trans (hb3.mono hbb2.size)
  go_wp2_with fail
  refine (hI.out v3 _ (RInts.of_row hr3)).mono ?_
  rintro e w4 ⟨rfl, hb4⟩
  have hbb4 := hbb3.trans (hb4.mono hbb3.size)
  have hr3' := hr3.below hb4
  clear hr3
  go_wp2_with fail
  refine (toIntS_any _ xs _ (H.out.below hbb4) hl).mono ?_
  rintro e w5 ⟨v5, rfl, hr5, hb5⟩
  have hbb5 := hbb4.trans (hb5.mono hbb4.size)
  go_wp2_with fail
  refine (eqInts_same v3 v5 xs _ _ _ (hr3'.below hb5) hr5 (by omega)).mono ?_
  rintro e w6 ⟨rfl, n6, rfl⟩
  go_wp2_with fail
  go_ret
  exact ⟨rfl, below_drewN hbb5 n6⟩
set_option maxHeartbeats 400000 in
theorem wFnExactOrderedOfRank_big (A : Option Addr) (len cap : Nat) (a1 : Int) (w : World) (h : 1048576 < len) :
    Calls Try.prog 3 #[.slice A len cap, .int .i64 a1] w fun e w' => e = .returned (.bool true) ∧ Below w.heap.size w w' := by
  go_enter Try.func3, Try.ntmps3
  go_wp2
  go_ret
  exact ⟨rfl, Below.refl _ _⟩
end Go.Proofs.Ytmfcknlpbliehaa
