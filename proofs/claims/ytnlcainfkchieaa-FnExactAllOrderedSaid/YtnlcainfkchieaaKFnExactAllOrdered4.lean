/- Pack 4 of what FnExactAllOrdered needs: Strs, LFnExactAllOrdered. -/
import Derived.Test.YtnlcainfkchieaaKFnExactAllOrdered3
import Derived.Deep.RegionHeld3
/- eqStringS, markStringS, heldStringS: the laws' own helpers on slices of strings. -/
namespace Go.Proofs.Ytnlcainfkchieaa
open Go.RowKit

set_option maxHeartbeats 400000 in
theorem eqStrs_same (v1 v2 : Value) (xs : List ByteArray) (B1 B2 : Nat) (w : World) (h1 : SRow w B1 v1 xs) (h2 : SRow w B2 v2 xs) (hl : xs.length ≤ 1099511627776) :
    Calls Try.prog 29 #[v1, v2] w fun e w' => e = .returned (.bool true) ∧ ∃ n, w' = w.drewN n := by
  by_cases h0 : xs.length = 0
  · obtain ⟨A1, c1, rfl⟩ := h1.shape
    obtain ⟨A2, c2, rfl⟩ := h2.shape
    rw [h0]
    clear h1 h2
    go_enter Try.func29, Try.ntmps29
    go_wp2
    refine wp_loop_rounds 1 ?_; rw [rounds_succ]
    go_wp2
    go_ret
    exact ⟨rfl, 0, rfl⟩
  · obtain ⟨g1, c1, rfl, _, _⟩ := h1.form' rfl (by omega)
    obtain ⟨g2, c2, rfl, _, _⟩ := h2.form' rfl (by omega)
    have H1 := Lib.hid h1
    have H2 := Lib.hid h2
    clear h1 h2 h0
    generalize hn : xs.length = n at *
    have HN := Lib.hid hn
    clear hn
    go_enter Try.func29, Try.ntmps29
    go_wp2
    go_loopw [5] (fun i wr => ∃ k : Nat, k ≤ n ∧ i = .int .i64 k ∧ ∃ m, wr = w.drewN m) (fun i _ => n - (intOf i).toNat)
    case atStart => exact ⟨0, Nat.zero_le _, rfl, 0, rfl⟩
    case round =>
      obtain ⟨k, hk, rfl, m, rfl⟩ := hrel
      by_cases hlt : k < n
      · have e1 := H1.out.cell (j := k) (by rw [HN.out]; omega)
        have e2 := H2.out.cell (j := k) (by rw [HN.out]; omega)
        generalize xs.getD k ByteArray.empty = x at e1 e2
        have i1 : (k : Int) < (n : Int) := by omega
        go_wp2
        go_quiet (fail)
        go_wp2
        go_roundw
        case rel => exact ⟨k + 1, by omega, by go_num, _, rfl⟩
        case measure => simp [intOf]; omega
      · go_wp2
        go_ret
        exact ⟨rfl, m, rfl⟩

/-- the texts m, m+1, .. -/
def smarks (m : Nat) (n : Nat) : List ByteArray := (List.range n).map fun j => mt (m + j)
theorem smarks_length (m n : Nat) : (smarks m n).length = n := by simp [smarks]
theorem smarks_get (m n k : Nat) (h : k < n) : (smarks m n).getD k ByteArray.empty = mt (m + k) := by
  unfold smarks; rw [List.getD_eq_getElem?_getD, List.getElem?_map, List.getElem?_range h]; rfl
/-- the first k are marked -/
def SMarked (ys : List ByteArray) (m n k : Nat) : Prop := ys.length = n ∧ ∀ j, j < k → ys.getD j ByteArray.empty = mt (m + j)
theorem SMarked.zero {ys : List ByteArray} {n : Nat} (m : Nat) (h : ys.length = n) : SMarked ys m n 0 := ⟨h, fun _ h => absurd h (by omega)⟩
theorem SMarked.succ {ys : List ByteArray} {m n k : Nat} (h : SMarked ys m n k) (hk : k < n) : SMarked (ys.set k (mt (m + k))) m n (k + 1) := by
  refine ⟨by rw [List.length_set]; exact h.1, fun j hj => ?_⟩
  rw [List.getD_eq_getElem?_getD, List.getElem?_set]
  by_cases e : k = j
  · subst e; rw [if_pos rfl, if_pos (by rw [h.1]; exact hk)]; rfl
  · rw [if_neg e, ← List.getD_eq_getElem?_getD]; exact h.2 j (by omega)
theorem SMarked.full {ys : List ByteArray} {m n k : Nat} (h : SMarked ys m n k) (hk : k = n) : ys = smarks m n := by
  subst hk
  apply List.ext_getElem
  · rw [h.1, smarks_length]
  · intro j h1 h2
    have a := h.2 j (by rw [h.1] at h1; exact h1)
    have b := smarks_get m k j (by rw [h.1] at h1; exact h1)
    rw [List.getD_eq_getElem?_getD, List.getElem?_eq_getElem h1] at a
    rw [List.getD_eq_getElem?_getD, List.getElem?_eq_getElem h2] at b
    simp at a b
    rw [a, b]
theorem below_grown {w w' : World} (hb : Below w.heap.size w w') (r : Option Nat) : w.grownBy w' r := ⟨hb.os, hb.tape, hb.output, hb.size, fun k hk _ => hb.block k hk⟩

set_option maxHeartbeats 400000 in
theorem markStrs_any (v : Value) (xs : List ByteArray) (B : Nat) (m : Nat) (w : World) (h1 : SRow w B v xs) (hl : xs.length ≤ 1073741824) (hm : 0 < m ∧ m ≤ 1073741824) :
    Calls Try.prog 30 #[v, .int .i64 (m : Nat)] w fun e w' => e = .returned (.int .i64 ((m + xs.length : Nat) : Int)) ∧ SRow w' B v (smarks m xs.length) ∧ w.grownBy w' v.ownBlock := by
  by_cases h0 : xs.length = 0
  · obtain ⟨A1, c1, rfl⟩ := h1.shape
    obtain rfl : xs = [] := List.eq_nil_of_length_eq_zero h0
    have H1 := Lib.hid h1
    clear h1 h0
    go_enter Try.func30, Try.ntmps30
    go_wp2
    refine wp_loop_rounds 1 ?_; rw [rounds_succ]
    go_wp2
    go_ret
    exact ⟨ret_int (by simp), H1.out, grown_refl' _ _⟩
  · obtain ⟨g1, c1, rfl, _, _⟩ := h1.form' rfl (by omega)
    generalize hn : xs.length = n at *
    have hs : SMarked xs m n 0 := SMarked.zero m hn
    clear hn
    go_enter Try.func30, Try.ntmps30
    go_wp2
    go_loopw [1, 5] (fun q i wr => ∃ k : Nat, k ≤ n ∧ i = .int .i64 k ∧ q = .int .i64 ((m + k : Nat) : Int) ∧ ∃ ys, SMarked ys m n k ∧ SRow wr B (.slice (some ⟨g1, 0, none⟩) n c1) ys ∧ w.grownBy wr (some g1)) (fun _ i _ => n - (intOf i).toNat)
    case atStart => exact ⟨0, Nat.zero_le _, rfl, by go_num, xs, hs, h1, grown_refl' _ _⟩
    case round =>
      obtain ⟨k, hk, rfl, rfl, ys, hmk, hrow, hg⟩ := hrel
      by_cases hlt : k < n
      · obtain ⟨q, hq⟩ : ∃ q, q = m + k := ⟨_, rfl⟩
        have hmk' := hmk.succ hlt
        rw [← hq] at hmk' ⊢
        have HM : Hid (∀ w, Calls Try.prog 53 #[.int .i64 (q : Nat)] w (Ret w (.string (mt q)))) := Lib.hid fun w => markText_any q w (by omega) (by omega)
        have hqb : 0 < q ∧ q ≤ 2147483648 := by omega
        have HQ := Lib.hid hq
        clear hq
        generalize mt q = x at hmk' HM
        go_wp2_with (go_at_call 53; refine (HM.out _).mono ?_; rintro e w3 ⟨rfl, hb3⟩; have hrow3 := hrow.below hb3; have e1 := hrow3.cell (j := k) (by rw [hmk.1]; omega); have e2 := hrow3.free k; have hst := hrow3.set k x)
        go_roundw
        case rel => exact ⟨k + 1, by omega, by go_num, by rw [show m + (k + 1) = q + 1 by rw [HQ.out]; rfl]; go_num, _, hmk', hst.1, grown_trans' (grown_trans' hg (below_grown hb3 _)) hst.2⟩
        case measure => simp [intOf]; omega
      · go_wp2
        obtain rfl : k = n := by omega
        go_ret
        exact ⟨rfl, by rw [← hmk.full rfl]; exact hrow, hg⟩

theorem keepS {w0 W W' : World} {g k : Nat} {x : Value} (h : W.cell? ⟨g, k, none⟩ = some x ∧ Below w0.heap.size w0 W) (hg : g < w0.heap.size) (hb : Below W.heap.size W W') : W'.cell? ⟨g, k, none⟩ = some x ∧ Below w0.heap.size w0 W' :=
  ⟨(hb.cell (p := ⟨g, k, none⟩) (Nat.lt_of_lt_of_le hg h.2.size)).trans h.1, h.2.trans (hb.mono h.2.size)⟩
theorem keepB {w0 W : World} {g k : Nat} {x : Value} (h : W.cell? ⟨g, k, none⟩ = some x ∧ Below w0.heap.size w0 W) : Below w0.heap.size w0 W := h.2
set_option maxHeartbeats 1000000 in
theorem heldStrs_any (v : Value) (n : Nat) (B : Nat) (m : Nat) (w : World) (h1 : SRow w B v (smarks m n)) (hl : n ≤ 1073741824) (hm : 0 < m ∧ m ≤ 1073741824) :
    Calls Try.prog 31 #[v, .int .i64 (m : Nat)] w (Ret w (.int .i64 ((m + n : Nat) : Int))) := by
  by_cases h0 : n = 0
  · subst h0
    obtain ⟨A1, c1, rfl⟩ := h1.shape
    rw [smarks_length] at *
    clear h1
    go_enter Try.func31, Try.ntmps31
    go_wp2
    refine wp_loop_rounds 1 ?_; rw [rounds_succ]
    go_wp2
    go_ret
    exact ⟨ret_int (by simp), Below.refl _ _⟩
  · obtain ⟨g1, c1, rfl, _, hgl⟩ := h1.form' (smarks_length m n) (by omega)
    have H1 := Lib.hid h1
    clear h1 h0
    go_enter Try.func31, Try.ntmps31
    go_wp2
    go_loopw [1, 5] (fun q i wr => ∃ k : Nat, k ≤ n ∧ i = .int .i64 k ∧ q = .int .i64 ((m + k : Nat) : Int) ∧ Below w.heap.size w wr) (fun _ i _ => n - (intOf i).toNat)
    case atStart => exact ⟨0, Nat.zero_le _, rfl, by go_num, Below.refl _ _⟩
    case round =>
      obtain ⟨k, hk, rfl, rfl, hb⟩ := hrel
      by_cases hlt : k < n
      · have e1 := (H1.out.below hb).cell (j := k) (by rw [smarks_length]; omega)
        rw [smarks_get m n k hlt] at e1
        obtain ⟨q, hq⟩ : ∃ q, q = m + k := ⟨_, rfl⟩
        rw [← hq] at e1 ⊢
        have HM : Hid (∀ w, Calls Try.prog 53 #[.int .i64 (q : Nat)] w (Ret w (.string (mt q)))) := Lib.hid fun w => markText_any q w (by omega) (by omega)
        have hqb : 0 < q ∧ q ≤ 2147483648 := by omega
        have HQ := Lib.hid hq
        clear hq
        generalize mt q = x at *
        have i1 : (k : Int) < (n : Int) := by omega
        go_wp2
        have hS0 : wr.drew.cell? ⟨g1, k, none⟩ = some (.string x) ∧ Below w.heap.size w wr.drew := ⟨e1, below_drewN hb 1⟩
        go_region_held3 (fun W => W.cell? ⟨g1, k, none⟩ = some (.string x) ∧ Below w.heap.size w W) (first | exact hS0 | exact keepS (by assumption) hgl (by assumption)) (first | (go_at_call 53; refine (HM.out _).mono ?_; rintro e w' ⟨rfl, hb'⟩))
        go_wp2
        go_roundw
        case rel => exact ⟨k + 1, by omega, by go_num, by rw [show m + (k + 1) = q + 1 by rw [HQ.out]; rfl]; go_num, keepB (g := g1) (k := k) (x := .string x) (by assumption)⟩
        case measure => simp [intOf]; omega
      · go_wp2
        obtain rfl : k = n := by omega
        go_ret
        exact ⟨rfl, hb⟩
end Go.Proofs.Ytnlcainfkchieaa

/- The walk of FnExactAllOrdered: it asks the model and the program about copies of a list, holds the answers against each other, marks them, asks again. -/
namespace Go.Proofs.Ytnlcainfkchieaa
open Go.RowKit
theorem SRow.over9 {w w' : World} {B : Nat} {v v2 : Value} {xs : List ByteArray} (h : SRow w B v xs) (hg : w.grownBy w' v2.ownBlock) (hv : ∀ k, v.ownBlock = some k → B ≤ k) (h2 : ∀ k, v2.ownBlock = some k → k < B) : SRow w' B v xs :=
  World.ownsRow.kept h hg (by
    cases e : v.ownBlock with
    | none => exact .inl rfl
    | some k => exact .inr (fun he => by have := hv k e; have := h2 k he.symm; omega))
set_option maxHeartbeats 2000000 in
theorem wFnExactAllOrdered_main (v : Value) (zs : List Int) (ok : Bool) (xs : List ByteArray) (hx : xs.length ≤ 1048577)
    (hS : Hid (∀ v w, RInts w v zs → Calls Try.prog 27 #[v] w (StrsRet w ok xs))) (hI : Hid (∀ v w, RInts w v zs → Calls Try.prog 28 #[v] w (StrsRet w ok xs))) (w : World) (h : RInts w v zs) (hl : zs.length ≤ 1048576) :
    Calls Try.prog 8 #[v] w fun e w' => e = .returned (.bool true) ∧ Below w.heap.size w w' := by
  obtain ⟨A0, cap, rfl⟩ := h.shape
  have H := Lib.hid h
  clear h
  have HMK : Hid (∀ (v : Value) (B : Nat) (w : World), SRow w B v xs → Calls Try.prog 30 #[v, .int .i64 1] w fun e w' => e = .returned (.int .i64 (1 + xs.length)) ∧ SRow w' B v (smarks 1 xs.length) ∧ w.grownBy w' v.ownBlock) := Lib.hid fun v B w h => by
    have := markStrs_any v xs B 1 w h (by omega) (by omega)
    have hc : (((1 + xs.length : Nat) : Int)) = 1 + (xs.length : Int) := by omega
    rw [hc] at this
    exact this
  have HHD : Hid (∀ (v : Value) (B : Nat) (w : World), SRow w B v (smarks 1 xs.length) → Calls Try.prog 31 #[v, .int .i64 1] w (Ret w (.int .i64 (1 + xs.length)))) := Lib.hid fun v B w h => by
    have := heldStrs_any v xs.length B 1 w h (by omega) (by omega)
    have hc : (((1 + xs.length : Nat) : Int)) = 1 + (xs.length : Int) := by omega
    rw [hc] at this
    exact this
  have hl' : ¬ (1048576 : Int) < (zs.length : Int) := by omega
  go_enter Try.func8, Try.ntmps8
  go_wp2_with fail
  refine (toIntS_any _ zs _ H.out hl).mono ?_
  rintro e w1 ⟨v1, rfl, hr1, hb1⟩
  go_wp2_with fail
  refine (hS.out v1 _ (RInts.of_row hr1)).mono ?_
  rintro e w2 ⟨v2, rfl, hr2, hb2⟩
  have hbb2 := hb1.trans (hb2.mono hb1.size)
  clear hr1
  go_wp2_with fail
  refine (toIntS_any _ zs _ (H.out.below hbb2) hl).mono ?_
  rintro e w3 ⟨v3, rfl, hr3, hb3⟩
  have hbb3 := hbb2.trans (hb3.mono hbb2.size)
  have K2 := Lib.hid hr2.blk
  have hr2b := hr2.below hb3
  clear hr2
  go_wp2_with fail
  refine (hI.out v3 _ (RInts.of_row hr3)).mono ?_
  rintro e w4 ⟨v4, rfl, hr4, hb4⟩
  have hbb4 := hbb3.trans (hb4.mono hbb3.size)
  have K3 := Lib.hid hr3.blk
  have K4 := Lib.hid hr4.blk
  have hr3b := hr3.below hb4
  have hr2c := hr2b.below hb4
  have z1 := hb1.size
  have z2 := hb2.size
  have z3 := hb3.size
  have z4 := hb4.size
  clear hr3 hr2b hb1 hb2 hb3 hb4 hbb2 hbb3
  go_wp2_with fail
  refine (eqStrs_same v4 v2 xs _ _ _ hr4 hr2c (by omega)).mono ?_
  rintro e w5 ⟨rfl, n5, rfl⟩
  have hbb5 := below_drewN hbb4 n5
  have hr4a := hr4.drewN n5
  have hr2d := hr2c.drewN n5
  have hr3c := hr3b.drewN n5
  have hs5 : (w4.drewN n5).heap.size = w4.heap.size := rfl
  generalize w4.drewN n5 = w5 at *
  clear hr4 hr2c hr3b hbb4
  go_wp2_with fail
  refine (toIntS_any _ zs _ (H.out.below hbb5) hl).mono ?_
  rintro e w6 ⟨v6, rfl, hr6, hb6⟩
  have hbb6 := hbb5.trans (hb6.mono hbb5.size)
  have hr4b := hr4a.below hb6
  have hr2e := hr2d.below hb6
  have hr3d := hr3c.below hb6
  have z6 := hb6.size
  clear hr4a hr2d hr3c hbb5 hb6
  go_wp2_with fail
  refine (eqInts_same v3 v6 zs _ _ _ hr3d hr6 (by omega)).mono ?_
  rintro e w7 ⟨rfl, n7, rfl⟩
  have hbb7 := below_drewN hbb6 n7
  have hr4c := hr4b.drewN n7
  have hr2f := hr2e.drewN n7
  have hr3e := hr3d.drewN n7
  have hs7 : (w6.drewN n7).heap.size = w6.heap.size := rfl
  generalize w6.drewN n7 = w7 at *
  clear hr4b hr2e hr3d hbb6 hr6
  go_wp2_with fail
  refine (markInts_any v3 zs _ 1 _ hr3e (by omega) (by omega)).mono ?_
  rintro e w8 ⟨rfl, hr3f, hg8⟩
  have hr2g := hr2f.grown_other hg8 (fun k hk => (K2.out k hk).2) (fun k hk => (K3.out k hk).1)
  have hr4d := hr4c.over9 hg8 (fun k hk => (K4.out k hk).1) (fun k hk => (K3.out k hk).2)
  have hbb8 : Below w.heap.size w w8 := hbb7.grown hg8 (by omega) (fun k hk => by have := (K3.out k hk).1; omega)
  have z8 := hg8.size
  have q1 : ¬ (1 + (zs.length : Int)) < 0 := by omega
  clear hr2f hr4c hbb7 hg8 hr3e
  go_wp2_with fail
  refine (eqStrs_same v4 v2 xs _ _ _ hr4d hr2g (by omega)).mono ?_
  rintro e w9 ⟨rfl, n9, rfl⟩
  have hbb9 := below_drewN hbb8 n9
  have hr4e := hr4d.drewN n9
  have hr2h := hr2g.drewN n9
  have hs9 : (w8.drewN n9).heap.size = w8.heap.size := rfl
  generalize w8.drewN n9 = w9 at *
  clear hr4d hr2g hbb8 hr3f
  go_wp2_with fail
  refine (HMK.out v4 _ _ hr4e).mono ?_
  rintro e w10 ⟨rfl, hr4f, hg10⟩
  have hr2i := hr2h.grown_other hg10 (fun k hk => (K2.out k hk).2) (fun k hk => Nat.le_trans z3 (K4.out k hk).1)
  have hbb10 : Below w.heap.size w w10 := hbb9.grown hg10 (by omega) (fun k hk => by have := (K4.out k hk).1; omega)
  have z10 := hg10.size
  clear hr2h hbb9 hg10 hr4e
  go_wp2_with fail
  refine (HHD.out v4 _ _ hr4f).mono ?_
  rintro e w11 ⟨rfl, hb11⟩
  replace hr4f := hr4f.below hb11
  replace hr2i := hr2i.below hb11
  replace hbb10 := hbb10.trans (hb11.mono hbb10.size)
  have z11 := hb11.size
  clear hb11
  have q2 : ¬ (1 + (xs.length : Int)) < 0 := by omega
  go_wp2_with fail
  refine (toIntS_any _ zs _ (H.out.below hbb10) hl).mono ?_
  rintro e w12 ⟨v12, rfl, hr12, hb12⟩
  have hbb12 := hbb10.trans (hb12.mono hbb10.size)
  have hr4g := hr4f.below hb12
  have hr2j := hr2i.below hb12
  have z12 := hb12.size
  clear hr4f hr2i hbb10 hb12
  go_wp2_with fail
  refine (hI.out v12 _ (RInts.of_row hr12)).mono ?_
  rintro e w13 ⟨v13, rfl, hr13, hb13⟩
  have hbb13 := hbb12.trans (hb13.mono hbb12.size)
  have hr4h := hr4g.below hb13
  have hr2k := hr2j.below hb13
  clear hr4g hr2j hbb12 hb13
  go_wp2_with fail
  refine (eqStrs_same v13 v2 xs _ _ _ hr13 hr2k (by omega)).mono ?_
  rintro e w14 ⟨rfl, n14, rfl⟩
  go_wp2_with fail
  refine (HHD.out v4 _ _ (hr4h.drewN n14)).mono ?_
  rintro e w15 ⟨rfl, hb15⟩
  go_wp2_with fail
  go_ret
  exact ⟨rfl, (below_drewN hbb13 n14).trans (hb15.mono (below_drewN hbb13 n14).size)⟩
set_option maxHeartbeats 400000 in
theorem wFnExactAllOrdered_big (A : Option Addr) (len cap : Nat) (w : World) (h : 1048576 < len) :
    Calls Try.prog 8 #[.slice A len cap] w fun e w' => e = .returned (.bool true) ∧ Below w.heap.size w w' := by
  go_enter Try.func8, Try.ntmps8
  go_wp2
  go_ret
  exact ⟨rfl, Below.refl _ _⟩
end Go.Proofs.Ytnlcainfkchieaa
