/- Pack 9 of what FnRotationsGood needs: LawHelp, Cur. -/
import Derived.Test.YtmfcknlpbliehabKFnRotationsGood8
import Derived.Deep.QuietTactic
import Derived.BigQuiet
import Derived.Deep.RegionHeld3
import Derived.Laws.Bits64b
/- xSame, xTexts, xSum, xCount, big: the laws' own helpers. -/
namespace Go.Proofs.Ytmfcknlpbliehab
open Go.RowKit
set_option maxHeartbeats 400000 in
theorem xSame_same (v1 v2 : Value) (xs : List Int) (B1 B2 : Nat) (w : World) (h1 : IRow w B1 v1 xs) (h2 : IRow w B2 v2 xs) (hl : xs.length ≤ 1099511627776) :
    Calls Try.prog 11 #[v1, v2] w fun e w' => e = .returned (.bool true) ∧ ∃ n, w' = w.drewN n := by
  by_cases h0 : xs.length = 0
  · obtain ⟨A1, c1, rfl⟩ := h1.shape
    obtain ⟨A2, c2, rfl⟩ := h2.shape
    rw [h0]
    clear h1 h2
    go_enter Try.func11, Try.ntmps11
    go_wp2
    refine wp_loop_rounds 1 ?_; rw [rounds_succ]
    go_wp2
    go_ret
    exact ⟨rfl, 0, rfl⟩
  · obtain ⟨g1, c1, rfl, _, _⟩ := h1.form' rfl (by omega)
    obtain ⟨g2, c2, rfl, _, _⟩ := h2.form' rfl (by omega)
    have H1 := Lib.hid h1
    have H2 := Lib.hid h2
    clear h1 h2 h0
    generalize hn : xs.length = n at *
    have HN := Lib.hid hn
    clear hn
    go_enter Try.func11, Try.ntmps11
    go_wp2
    go_loopw [13] (fun i wr => ∃ k : Nat, k ≤ n ∧ i = .int .i64 k ∧ ∃ m, wr = w.drewN m) (fun i _ => n - (intOf i).toNat)
    case atStart => exact ⟨0, Nat.zero_le _, rfl, 0, rfl⟩
    case round =>
      obtain ⟨k, hk, rfl, m, rfl⟩ := hrel
      by_cases hlt : k < n
      · have e1 := H1.out.cell (j := k) (by rw [HN.out]; omega)
        have e2 := H2.out.cell (j := k) (by rw [HN.out]; omega)
        have i1 : (k : Int) < (n : Int) := by omega
        go_wp2
        go_quiet (fail)
        go_wp2
        go_roundw
        case rel => exact ⟨k + 1, by omega, by go_num, _, rfl⟩
        case measure => simp [intOf]; omega
      · go_wp2
        go_ret
        exact ⟨rfl, m, rfl⟩
theorem sum_take_bd (xs : List Int) (M : Int) (hM : 0 ≤ M) (hb : ∀ x ∈ xs, -M ≤ x ∧ x ≤ M) : ∀ k : Nat, -(M * k) ≤ (xs.take k).sum ∧ (xs.take k).sum ≤ M * k := by
  intro k
  induction k with
  | zero => simp
  | succ k ih =>
    rw [List.take_add_one]
    have e : M * ((k + 1 : Nat) : Int) = M * k + M := by rw [Int.natCast_add, Int.mul_add]; simp
    rw [e]
    cases hx : xs[k]? with
    | none => simp only [Option.toList_none, List.append_nil]; omega
    | some x =>
      have := hb x (List.mem_of_getElem? hx)
      simp only [Option.toList_some, List.sum_append, List.sum_cons, List.sum_nil]
      omega
theorem sum_step (xs : List Int) (k : Nat) (hk : k < xs.length) : (xs.take (k + 1)).sum = (xs.take k).sum + xs.getD k 0 := by
  rw [List.take_succ_eq_append_getElem hk, List.sum_append, List.getD_eq_getElem?_getD, List.getElem?_eq_getElem hk]
  simp
set_option maxHeartbeats 400000 in
theorem xSum_any (v : Value) (xs : List Int) (B : Nat) (w : World) (h1 : IRow w B v xs) (hl : xs.length ≤ 1000000) (hb : ∀ x ∈ xs, -1000000 ≤ x ∧ x ≤ 1000000) :
    Calls Try.prog 14 #[v] w fun e w' => e = .returned (.int .i64 xs.sum) ∧ w = w' := by
  have HB := Lib.hid (sum_take_bd xs 1000000 (by omega) hb)
  have HE := Lib.hid hb
  clear hb
  obtain ⟨A1, c1, rfl⟩ := h1.shape
  generalize hn : xs.length = n at *
  have HN := Lib.hid hn
  have H1 := Lib.hid h1
  clear h1 hn
  go_enter Try.func14, Try.ntmps14
  go_wp2
  go_loop [3, 8] (fun s i => ∃ k : Nat, k ≤ n ∧ i = .int .i64 k ∧ s = .int .i64 (xs.take k).sum) (fun _ i => n - (intOf i).toNat)
  case atStart => exact ⟨0, Nat.zero_le _, rfl, rfl⟩
  case round =>
    obtain ⟨k, hk, rfl, rfl⟩ := hrel
    by_cases hlt : k < n
    · obtain ⟨g1, c2, hv, _, _⟩ := H1.out.form' HN.out (by omega)
      have hA : A1 = some ⟨g1, 0, none⟩ := by injection hv
      subst hA
      clear hv
      have e1 := H1.out.cell (j := k) (by rw [HN.out]; omega)
      have hS := Lib.hid (sum_step xs k (by rw [HN.out]; omega))
      have hb1 := HB.out k
      have hb2 : -1000000 ≤ xs.getD k 0 ∧ xs.getD k 0 ≤ 1000000 := by
        have hkl : k < xs.length := by rw [HN.out]; exact hlt
        rw [List.getD_eq_getElem?_getD, List.getElem?_eq_getElem hkl]
        exact HE.out _ (List.getElem_mem hkl)
      generalize xs.getD k 0 = x at *
      generalize (xs.take k).sum = S at *
      go_wp2
      go_round
      case rel => exact ⟨k + 1, by omega, by go_num, by rw [hS.out]⟩
      case measure => simp [intOf]; omega
    · obtain rfl : k = n := by omega
      go_wp2
      go_ret
      exact ⟨ret_int (by rw [← HN.out, List.take_length]), rfl⟩
set_option maxHeartbeats 400000 in
theorem big_any (A1 A2 : Option Addr) (l1 c1 l2 c2 : Nat) (w : World) (h1 : l1 ≤ 1099511627776) (h2 : l2 ≤ 1099511627776) :
    Calls Try.prog 5 #[.slice A1 l1 c1, .slice A2 l2 c2] w fun e w' => e = .returned (.bool (decide (1048576 < l1 + l2))) ∧ w = w' := by
  by_cases hb : 1048576 < l1
  · have e : decide (1048576 < l1 + l2) = true := decide_eq_true (by omega)
    rw [e]
    go_enter Try.func5, Try.ntmps5
    go_wp2
    go_ret
    exact ⟨rfl, rfl⟩
  · have d1 : decide ((1048576 : Int) < (l1 : Int)) = false := decide_eq_false (by omega)
    by_cases hb2 : (1048576 : Int) - (l1 : Int) < (l2 : Int)
    · have e : decide (1048576 < l1 + l2) = true := decide_eq_true (by omega)
      rw [e]
      have d2 : decide ((1048576 : Int) - (l1 : Int) < (l2 : Int)) = true := decide_eq_true hb2
      go_enter Try.func5, Try.ntmps5
      go_wp2
      go_ret
      exact ⟨rfl, rfl⟩
    · have e : decide (1048576 < l1 + l2) = false := decide_eq_false (by omega)
      rw [e]
      have d2 : decide ((1048576 : Int) - (l1 : Int) < (l2 : Int)) = false := decide_eq_false hb2
      go_enter Try.func5, Try.ntmps5
      go_wp2
      go_ret
      exact ⟨rfl, rfl⟩
end Go.Proofs.Ytmfcknlpbliehab

/- The cursor of the laws' draws: next, pick. Only how far its answers go is said. -/
namespace Go.Proofs.Ytmfcknlpbliehab
open Go.RowKit
/-- len bytes lie from A on, all below block g -/
def CodeAt (w : World) (g : Nat) (A : Option Addr) (len : Nat) : Prop := ∀ j, j < len → ∃ (a : Addr) (x : Nat), A = some a ∧ a.block < g ∧ x ≤ 255 ∧ w.cell? (a.add j) = some (.int .u8 (x : Nat))
/-- block g holds a cursor over the code A, len, cap; it has come to T at most -/
structure Cur (w : World) (g : Nat) (A : Option Addr) (len cap T : Nat) : Prop where
  code : CodeAt w g A len
  c0 : w.cell? ⟨g, 0, none⟩ = some (.slice A len cap)
  c1 : ∃ a : Nat, a ≤ T ∧ w.cell? ⟨g, 1, none⟩ = some (.int .i64 (a : Nat))
  c2 : ∃ z : Int, 0 ≤ z ∧ z < 18446744073709551616 ∧ w.cell? ⟨g, 2, none⟩ = some (.int .u64 z)
  free : ∀ j, w.frozen? ⟨g, j, none⟩ = false
  lt : g < w.heap.size
/-- the world at hand is named, and what is said of it -/
theorem wp_name {P : Program} {c : Code} {Q : Exit → Act → World → Prop} {a : Act} {w : World} (S : World → Prop) (h : S w) (k : ∀ W, S W → c.wp P Q a W) : c.wp P Q a w := k w h
theorem add_block (a : Addr) (j : Nat) : (a.add j).block = a.block := by unfold Addr.add; split <;> rfl
theorem CodeAt.kept {w w' : World} {g : Nat} {A : Option Addr} {len : Nat} (h : CodeAt w g A len) (hg : w.grownBy w' (some g)) (hl : g < w.heap.size) : CodeAt w' g A len := fun j hj => by
  obtain ⟨a, x, h1, h2, h3, h4⟩ := h j hj
  refine ⟨a, x, h1, h2, h3, ?_⟩
  rw [← h4]
  have hb := add_block a j
  unfold World.cell?
  rw [hb, hg.block a.block (by omega) (fun e => by injection e with e; omega)]
theorem Cur.drewN {w : World} {g : Nat} {A : Option Addr} {len cap T : Nat} (h : Cur w g A len cap T) (n : Nat) : Cur (w.drewN n) g A len cap T := ⟨h.code, h.c0, h.c1, h.c2, h.free, h.lt⟩
theorem grown_drewN {w w' : World} {r : Option Nat} (h : w.grownBy w' r) (n : Nat) : w.grownBy (w'.drewN n) r := ⟨h.os, h.tape, h.output, h.size, h.block⟩
theorem and255 (z : Int) (h1 : 0 ≤ z) (h2 : z < 18446744073709551616) : 0 ≤ wrap64 (bits BinOp.and IntKind.u64 (z / 1099511627776) 255) ∧ wrap64 (bits BinOp.and IntKind.u64 (z / 1099511627776) 255) ≤ 255 := by
  obtain ⟨n, hn⟩ : ∃ n : Nat, z / 1099511627776 = (n : Int) := ⟨(z / 1099511627776).toNat, by omega⟩
  rw [hn]
  have := bits_and_u64_nat n 255 (by omega) (by omega)
  have e : (255 : Int) = ((255 : Nat) : Int) := rfl
  rw [e, this]
  have hle : n &&& 255 ≤ 255 := Nat.and_le_right
  generalize n &&& 255 = m at *
  have hw : wrap64 ((m : Nat) : Int) = (m : Int) := by unfold wrap64; omega
  rw [hw]
  omega
/-- where the cursor stands behind a step -/
def CurS (w : World) (g : Nat) (A : Option Addr) (len cap T a : Nat) (W : World) : Prop :=
  W.cell? ⟨g, 0, none⟩ = some (.slice A len cap) ∧ W.cell? ⟨g, 1, none⟩ = some (.int .i64 ((a : Int) + 1)) ∧
  (∃ z : Int, 0 ≤ z ∧ z < 18446744073709551616 ∧ W.cell? ⟨g, 2, none⟩ = some (.int .u64 z)) ∧ Cur W g A len cap (T + 1) ∧ w.grownBy W (some g)
theorem u64_bd (y : Int) : 0 ≤ IntKind.u64.wrap y ∧ IntKind.u64.wrap y < 18446744073709551616 := by
  rw [IntKind.wrap_u64]; omega
theorem grown_setCell {w w' : World} {g : Nat} (h : w.grownBy w' (some g)) (j : Nat) (v : Value) : w.grownBy (w'.setCell ⟨g, j, none⟩ v) (some g) :=
  ⟨h.os.trans (by simp), h.tape.trans (by simp), h.output.trans (by simp), by have := h.size; simpa using this, fun k hk hn => by
    rw [← h.block k hk hn]
    exact Below.heap_setCell _ _ _ _ (by intro e; exact hn (by rw [e]))⟩
theorem CurS.intro {w : World} {g : Nat} {A : Option Addr} {len cap T : Nat} (h : Cur w g A len cap T) {a : Nat} (ha : a ≤ T) (m : Nat) (y : Int) :
    CurS w g A len cap T a (((w.drewN m).setCell ⟨g, 1, none⟩ (.int .i64 ((a : Int) + 1))).setCell ⟨g, 2, none⟩ (.int .u64 (IntKind.u64.wrap y))) := by
  obtain ⟨a1, _, c1⟩ := h.c1
  obtain ⟨z, _, _, c2⟩ := h.c2
  have hg : w.grownBy (((w.drewN m).setCell ⟨g, 1, none⟩ (.int .i64 ((a : Int) + 1))).setCell ⟨g, 2, none⟩ (.int .u64 (IntKind.u64.wrap y))) (some g) :=
    grown_setCell (grown_setCell (w := w) (w' := w.drewN m) ⟨rfl, rfl, rfl, Nat.le_refl _, fun _ _ _ => rfl⟩ _ _) _ _
  have d0 : (((w.drewN m).setCell ⟨g, 1, none⟩ (.int .i64 ((a : Int) + 1))).setCell ⟨g, 2, none⟩ (.int .u64 (IntKind.u64.wrap y))).cell? ⟨g, 0, none⟩ = some (.slice A len cap) := by
    rw [World.cell?_setCell_other _ _ _ _ (by simp), World.cell?_setCell_other _ _ _ _ (by simp)]; exact h.c0
  have d1 : (((w.drewN m).setCell ⟨g, 1, none⟩ (.int .i64 ((a : Int) + 1))).setCell ⟨g, 2, none⟩ (.int .u64 (IntKind.u64.wrap y))).cell? ⟨g, 1, none⟩ = some (.int .i64 ((a : Int) + 1)) := by
    rw [World.cell?_setCell_other _ _ _ _ (by simp)]
    exact World.cell?_setCell_same _ _ _ (u := .int .i64 (a1 : Nat)) c1
  have d2 : (((w.drewN m).setCell ⟨g, 1, none⟩ (.int .i64 ((a : Int) + 1))).setCell ⟨g, 2, none⟩ (.int .u64 (IntKind.u64.wrap y))).cell? ⟨g, 2, none⟩ = some (.int .u64 (IntKind.u64.wrap y)) := by
    refine World.cell?_setCell_same _ _ _ (u := .int .u64 z) ?_
    rw [World.cell?_setCell_other _ _ _ _ (by simp)]
    exact c2
  have hb := u64_bd y
  refine ⟨d0, d1, ⟨_, hb.1, hb.2, d2⟩, ⟨h.code.kept hg h.lt, d0, ⟨a + 1, by omega, d1⟩, ⟨_, hb.1, hb.2, d2⟩, fun j => by simpa using h.free j, by have := h.lt; simpa using this⟩, hg⟩
set_option maxRecDepth 100000 in
set_option maxHeartbeats 1000000 in
theorem next_any (w : World) (g : Nat) (A : Option Addr) (len cap T : Nat) (hc : Cur w g A len cap T) (hT : T ≤ 1099511627776) (hl : len ≤ 1099511627776) :
    Calls Try.prog 65 #[.pointer (some ⟨g, 0, none⟩)] w fun e w' => ∃ x : Int, e = .returned (.int .i64 x) ∧ 0 ≤ x ∧ x ≤ 255 ∧ Cur w' g A len cap (T + 1) ∧ w.grownBy w' (some g) := by
  obtain ⟨a, ha, c1⟩ := hc.c1
  obtain ⟨z, hz1, hz2, c2⟩ := hc.c2
  have c0 := hc.c0
  have f0 := hc.free 0
  have f1 := hc.free 1
  have f2 := hc.free 2
  have HC := Lib.hid hc
  clear hc
  by_cases hlt : a < len
  · obtain ⟨A, x, rfl, hb, hx, hx0⟩ := HC.out.code a hlt
    have i1 : (a : Int) < (len : Int) := by omega
    go_enter Try.func65, Try.ntmps65
    go_wp2
    go_quiet (fail)
    go_wp2
    go_quiet (fail)
    go_wp2
    refine wp_name (CurS w g (some A) len cap T a) (CurS.intro HC.out ha _ _) ?_
    rintro W ⟨d0, d1, ⟨zz, hzz1, hzz2, d2⟩, hcur, hgr⟩
    clear c0 c1 c2 f0 f1 f2 hz1 hz2 hx0
    have i2 : (a : Int) + 1 ≤ (len : Int) := by omega
    go_quiet (fail)
    go_wp2
    go_ret
    exact ⟨_, rfl, by omega, by omega, hcur.drewN _, grown_drewN hgr _⟩
  · have d1 : decide ((a : Int) < (len : Int)) = false := decide_eq_false (by omega)
    go_enter Try.func65, Try.ntmps65
    go_wp2
    go_quiet (fail)
    go_wp2
    refine wp_name (CurS w g A len cap T a) (CurS.intro HC.out ha _ _) ?_
    rintro W ⟨d0, d1, ⟨zz, hzz1, hzz2, d2⟩, hcur, hgr⟩
    clear c0 c1 c2 f0 f1 f2 hz1 hz2
    have i2 : decide ((a : Int) + 1 ≤ (len : Int)) = false := decide_eq_false (by omega)
    go_quiet (fail)
    go_wp2
    go_ret
    exact ⟨_, rfl, (and255 zz hzz1 hzz2).1, (and255 zz hzz1 hzz2).2, hcur.drewN _, grown_drewN hgr _⟩
end Go.Proofs.Ytmfcknlpbliehab
