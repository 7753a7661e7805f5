/- eqStringS, markStringS, heldStringS: the laws' own helpers on slices of strings. -/
import Derived.Test.YtnlcainfkchieaaDoorSOwn
import Derived.Test.YtnlcainfkchieaaDoorMarkText
import Derived.Test.YtnlcainfkchieaaDoorLists
import Derived.Deep.RegionHeld3
namespace Go.Proofs.YtnlcainfkchieaaDoor
open Go.RowKit

set_option maxHeartbeats 400000 in
theorem eqStrs_same (v1 v2 : Value) (xs : List ByteArray) (B1 B2 : Nat) (w : World) (h1 : SRow w B1 v1 xs) (h2 : SRow w B2 v2 xs) (hl : xs.length ≤ 1099511627776) :
    Calls Tryd.prog 25 #[v1, v2] w fun e w' => e = .returned (.bool true) ∧ ∃ n, w' = w.drewN n := by
  by_cases h0 : xs.length = 0
  · obtain ⟨A1, c1, rfl⟩ := h1.shape
    obtain ⟨A2, c2, rfl⟩ := h2.shape
    rw [h0]
    clear h1 h2
    go_enter Tryd.func25, Tryd.ntmps25
    go_wp2
    refine wp_loop_rounds 1 ?_; rw [rounds_succ]
    go_wp2
    go_ret
    exact ⟨rfl, 0, rfl⟩
  · obtain ⟨g1, c1, rfl, _, _⟩ := h1.form' rfl (by omega)
    obtain ⟨g2, c2, rfl, _, _⟩ := h2.form' rfl (by omega)
    have H1 := Lib.hid h1
    have H2 := Lib.hid h2
    clear h1 h2 h0
    generalize hn : xs.length = n at *
    have HN := Lib.hid hn
    clear hn
    go_enter Tryd.func25, Tryd.ntmps25
    go_wp2
    go_loopw [5] (fun i wr => ∃ k : Nat, k ≤ n ∧ i = .int .i64 k ∧ ∃ m, wr = w.drewN m) (fun i _ => n - (intOf i).toNat)
    case atStart => exact ⟨0, Nat.zero_le _, rfl, 0, rfl⟩
    case round =>
      obtain ⟨k, hk, rfl, m, rfl⟩ := hrel
      by_cases hlt : k < n
      · have e1 := H1.out.cell (j := k) (by rw [HN.out]; omega)
        have e2 := H2.out.cell (j := k) (by rw [HN.out]; omega)
        generalize xs.getD k ByteArray.empty = x at e1 e2
        have i1 : (k : Int) < (n : Int) := by omega
        go_wp2
        go_quiet (fail)
        go_wp2
        go_roundw
        case rel => exact ⟨k + 1, by omega, by go_num, _, rfl⟩
        case measure => simp [intOf]; omega
      · go_wp2
        go_ret
        exact ⟨rfl, m, rfl⟩

/-- the texts m, m+1, .. -/
def smarks (m : Nat) (n : Nat) : List ByteArray := (List.range n).map fun j => mt (m + j)
theorem smarks_length (m n : Nat) : (smarks m n).length = n := by simp [smarks]
theorem smarks_get (m n k : Nat) (h : k < n) : (smarks m n).getD k ByteArray.empty = mt (m + k) := by
  unfold smarks; rw [List.getD_eq_getElem?_getD, List.getElem?_map, List.getElem?_range h]; rfl
/-- the first k are marked -/
def SMarked (ys : List ByteArray) (m n k : Nat) : Prop := ys.length = n ∧ ∀ j, j < k → ys.getD j ByteArray.empty = mt (m + j)
theorem SMarked.zero {ys : List ByteArray} {n : Nat} (m : Nat) (h : ys.length = n) : SMarked ys m n 0 := ⟨h, fun _ h => absurd h (by omega)⟩
theorem SMarked.succ {ys : List ByteArray} {m n k : Nat} (h : SMarked ys m n k) (hk : k < n) : SMarked (ys.set k (mt (m + k))) m n (k + 1) := by
  refine ⟨by rw [List.length_set]; exact h.1, fun j hj => ?_⟩
  rw [List.getD_eq_getElem?_getD, List.getElem?_set]
  by_cases e : k = j
  · subst e; rw [if_pos rfl, if_pos (by rw [h.1]; exact hk)]; rfl
  · rw [if_neg e, ← List.getD_eq_getElem?_getD]; exact h.2 j (by omega)
theorem SMarked.full {ys : List ByteArray} {m n k : Nat} (h : SMarked ys m n k) (hk : k = n) : ys = smarks m n := by
  subst hk
  apply List.ext_getElem
  · rw [h.1, smarks_length]
  · intro j h1 h2
    have a := h.2 j (by rw [h.1] at h1; exact h1)
    have b := smarks_get m k j (by rw [h.1] at h1; exact h1)
    rw [List.getD_eq_getElem?_getD, List.getElem?_eq_getElem h1] at a
    rw [List.getD_eq_getElem?_getD, List.getElem?_eq_getElem h2] at b
    simp at a b
    rw [a, b]
theorem below_grown {w w' : World} (hb : Below w.heap.size w w') (r : Option Nat) : w.grownBy w' r := ⟨hb.os, hb.tape, hb.output, hb.size, fun k hk _ => hb.block k hk⟩

set_option maxHeartbeats 400000 in
theorem markStrs_any (v : Value) (xs : List ByteArray) (B : Nat) (m : Nat) (w : World) (h1 : SRow w B v xs) (hl : xs.length ≤ 1073741824) (hm : 0 < m ∧ m ≤ 1073741824) :
    Calls Tryd.prog 26 #[v, .int .i64 (m : Nat)] w fun e w' => e = .returned (.int .i64 ((m + xs.length : Nat) : Int)) ∧ SRow w' B v (smarks m xs.length) ∧ w.grownBy w' v.ownBlock := by
  by_cases h0 : xs.length = 0
  · obtain ⟨A1, c1, rfl⟩ := h1.shape
    obtain rfl : xs = [] := List.eq_nil_of_length_eq_zero h0
    have H1 := Lib.hid h1
    clear h1 h0
    go_enter Tryd.func26, Tryd.ntmps26
    go_wp2
    refine wp_loop_rounds 1 ?_; rw [rounds_succ]
    go_wp2
    go_ret
    exact ⟨ret_int (by simp), H1.out, grown_refl' _ _⟩
  · obtain ⟨g1, c1, rfl, _, _⟩ := h1.form' rfl (by omega)
    generalize hn : xs.length = n at *
    have hs : SMarked xs m n 0 := SMarked.zero m hn
    clear hn
    go_enter Tryd.func26, Tryd.ntmps26
    go_wp2
    go_loopw [1, 5] (fun q i wr => ∃ k : Nat, k ≤ n ∧ i = .int .i64 k ∧ q = .int .i64 ((m + k : Nat) : Int) ∧ ∃ ys, SMarked ys m n k ∧ SRow wr B (.slice (some ⟨g1, 0, none⟩) n c1) ys ∧ w.grownBy wr (some g1)) (fun _ i _ => n - (intOf i).toNat)
    case atStart => exact ⟨0, Nat.zero_le _, rfl, by go_num, xs, hs, h1, grown_refl' _ _⟩
    case round =>
      obtain ⟨k, hk, rfl, rfl, ys, hmk, hrow, hg⟩ := hrel
      by_cases hlt : k < n
      · obtain ⟨q, hq⟩ : ∃ q, q = m + k := ⟨_, rfl⟩
        have hmk' := hmk.succ hlt
        rw [← hq] at hmk' ⊢
        have HM : Hid (∀ w, Calls Tryd.prog 53 #[.int .i64 (q : Nat)] w (Ret w (.string (mt q)))) := Lib.hid fun w => markText_any q w (by omega) (by omega)
        have hqb : 0 < q ∧ q ≤ 2147483648 := by omega
        have HQ := Lib.hid hq
        clear hq
        generalize mt q = x at hmk' HM
        go_wp2_with (go_at_call 53; refine (HM.out _).mono ?_; rintro e w3 ⟨rfl, hb3⟩; have hrow3 := hrow.below hb3; have e1 := hrow3.cell (j := k) (by rw [hmk.1]; omega); have e2 := hrow3.free k; have hst := hrow3.set k x)
        go_roundw
        case rel => exact ⟨k + 1, by omega, by go_num, by rw [show m + (k + 1) = q + 1 by rw [HQ.out]; rfl]; go_num, _, hmk', hst.1, grown_trans' (grown_trans' hg (below_grown hb3 _)) hst.2⟩
        case measure => simp [intOf]; omega
      · go_wp2
        obtain rfl : k = n := by omega
        go_ret
        exact ⟨rfl, by rw [← hmk.full rfl]; exact hrow, hg⟩

theorem keepS {w0 W W' : World} {g k : Nat} {x : Value} (h : W.cell? ⟨g, k, none⟩ = some x ∧ Below w0.heap.size w0 W) (hg : g < w0.heap.size) (hb : Below W.heap.size W W') : W'.cell? ⟨g, k, none⟩ = some x ∧ Below w0.heap.size w0 W' :=
  ⟨(hb.cell (p := ⟨g, k, none⟩) (Nat.lt_of_lt_of_le hg h.2.size)).trans h.1, h.2.trans (hb.mono h.2.size)⟩
theorem keepB {w0 W : World} {g k : Nat} {x : Value} (h : W.cell? ⟨g, k, none⟩ = some x ∧ Below w0.heap.size w0 W) : Below w0.heap.size w0 W := h.2
set_option maxHeartbeats 1000000 in
theorem heldStrs_any (v : Value) (n : Nat) (B : Nat) (m : Nat) (w : World) (h1 : SRow w B v (smarks m n)) (hl : n ≤ 1073741824) (hm : 0 < m ∧ m ≤ 1073741824) :
    Calls Tryd.prog 27 #[v, .int .i64 (m : Nat)] w (Ret w (.int .i64 ((m + n : Nat) : Int))) := by
  by_cases h0 : n = 0
  · subst h0
    obtain ⟨A1, c1, rfl⟩ := h1.shape
    rw [smarks_length] at *
    clear h1
    go_enter Tryd.func27, Tryd.ntmps27
    go_wp2
    refine wp_loop_rounds 1 ?_; rw [rounds_succ]
    go_wp2
    go_ret
    exact ⟨ret_int (by simp), Below.refl _ _⟩
  · obtain ⟨g1, c1, rfl, _, hgl⟩ := h1.form' (smarks_length m n) (by omega)
    have H1 := Lib.hid h1
    clear h1 h0
    go_enter Tryd.func27, Tryd.ntmps27
    go_wp2
    go_loopw [1, 5] (fun q i wr => ∃ k : Nat, k ≤ n ∧ i = .int .i64 k ∧ q = .int .i64 ((m + k : Nat) : Int) ∧ Below w.heap.size w wr) (fun _ i _ => n - (intOf i).toNat)
    case atStart => exact ⟨0, Nat.zero_le _, rfl, by go_num, Below.refl _ _⟩
    case round =>
      obtain ⟨k, hk, rfl, rfl, hb⟩ := hrel
      by_cases hlt : k < n
      · have e1 := (H1.out.below hb).cell (j := k) (by rw [smarks_length]; omega)
        rw [smarks_get m n k hlt] at e1
        obtain ⟨q, hq⟩ : ∃ q, q = m + k := ⟨_, rfl⟩
        rw [← hq] at e1 ⊢
        have HM : Hid (∀ w, Calls Tryd.prog 53 #[.int .i64 (q : Nat)] w (Ret w (.string (mt q)))) := Lib.hid fun w => markText_any q w (by omega) (by omega)
        have hqb : 0 < q ∧ q ≤ 2147483648 := by omega
        have HQ := Lib.hid hq
        clear hq
        generalize mt q = x at *
        have i1 : (k : Int) < (n : Int) := by omega
        go_wp2
        have hS0 : wr.drew.cell? ⟨g1, k, none⟩ = some (.string x) ∧ Below w.heap.size w wr.drew := ⟨e1, below_drewN hb 1⟩
        go_region_held3 (fun W => W.cell? ⟨g1, k, none⟩ = some (.string x) ∧ Below w.heap.size w W) (first | exact hS0 | exact keepS (by assumption) hgl (by assumption)) (first | (go_at_call 53; refine (HM.out _).mono ?_; rintro e w' ⟨rfl, hb'⟩))
        go_wp2
        go_roundw
        case rel => exact ⟨k + 1, by omega, by go_num, by rw [show m + (k + 1) = q + 1 by rw [HQ.out]; rfl]; go_num, keepB (g := g1) (k := k) (x := .string x) (by assumption)⟩
        case measure => simp [intOf]; omega
      · go_wp2
        obtain rfl : k = n := by omega
        go_ret
        exact ⟨rfl, hb⟩
end Go.Proofs.YtnlcainfkchieaaDoor
