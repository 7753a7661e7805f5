/- Pack 26 of what FnExactRankOrdered needs: Lists, Rot. -/
import Derived.Test.YtmfcknlpbliehaaDoorKFnExactRankOrdered25
import Derived.Deep.QuietTactic
import Derived.BigQuiet
import Derived.Deep.RegionLaw
import Derived.Deep.AppendLies
/- eqIntS, markIntS, heldIntS: the laws' own helpers on slices of ints. -/
namespace Go.Proofs.YtmfcknlpbliehaaDoor
open Go.RowKit

set_option maxHeartbeats 400000 in
theorem eqInts_same (v1 v2 : Value) (xs : List Int) (B1 B2 : Nat) (w : World) (h1 : IRow w B1 v1 xs) (h2 : IRow w B2 v2 xs) (hl : xs.length ≤ 1099511627776) :
    Calls Tryd.prog 28 #[v1, v2] w fun e w' => e = .returned (.bool true) ∧ ∃ n, w' = w.drewN n := by
  by_cases h0 : xs.length = 0
  · obtain ⟨A1, c1, rfl⟩ := h1.shape
    obtain ⟨A2, c2, rfl⟩ := h2.shape
    rw [h0]
    clear h1 h2
    go_enter Tryd.func28, Tryd.ntmps28
    go_wp2
    refine wp_loop_rounds 1 ?_; rw [rounds_succ]
    go_wp2
    go_ret
    exact ⟨rfl, 0, rfl⟩
  · obtain ⟨g1, c1, rfl, _, _⟩ := h1.form' rfl (by omega)
    obtain ⟨g2, c2, rfl, _, _⟩ := h2.form' rfl (by omega)
    have H1 := Lib.hid h1
    have H2 := Lib.hid h2
    clear h1 h2 h0
    generalize hn : xs.length = n at *
    have HN := Lib.hid hn
    clear hn
    go_enter Tryd.func28, Tryd.ntmps28
    go_wp2
    go_loopw [5] (fun i wr => ∃ k : Nat, k ≤ n ∧ i = .int .i64 k ∧ ∃ m, wr = w.drewN m) (fun i _ => n - (intOf i).toNat)
    case atStart => exact ⟨0, Nat.zero_le _, rfl, 0, rfl⟩
    case round =>
      obtain ⟨k, hk, rfl, m, rfl⟩ := hrel
      by_cases hlt : k < n
      · have e1 := H1.out.cell (j := k) (by rw [HN.out]; omega)
        have e2 := H2.out.cell (j := k) (by rw [HN.out]; omega)
        have i1 : (k : Int) < (n : Int) := by omega
        go_wp2
        go_quiet (fail)
        go_wp2
        go_roundw
        case rel => exact ⟨k + 1, by omega, by go_num, _, rfl⟩
        case measure => simp [intOf]; omega
      · go_wp2
        go_ret
        exact ⟨rfl, m, rfl⟩

/-- the numbers m, m+1, .. -/
def marks (m : Int) (n : Nat) : List Int := (List.range n).map fun j => m + (j : Nat)
theorem marks_length (m : Int) (n : Nat) : (marks m n).length = n := by simp [marks]
theorem marks_get (m : Int) (n k : Nat) (h : k < n) : (marks m n).getD k 0 = m + k := by
  unfold marks; rw [List.getD_eq_getElem?_getD, List.getElem?_map, List.getElem?_range h]; rfl
/-- the first k are marked -/
def Marked (ys : List Int) (m : Int) (n k : Nat) : Prop := ys.length = n ∧ ∀ j, j < k → ys.getD j 0 = m + (j : Nat)
theorem Marked.zero {ys : List Int} {n : Nat} (m : Int) (h : ys.length = n) : Marked ys m n 0 := ⟨h, fun _ h => absurd h (by omega)⟩
theorem Marked.succ {ys : List Int} {m : Int} {n k : Nat} (h : Marked ys m n k) (hk : k < n) : Marked (ys.set k (m + (k : Nat))) m n (k + 1) := by
  refine ⟨by rw [List.length_set]; exact h.1, fun j hj => ?_⟩
  rw [List.getD_eq_getElem?_getD, List.getElem?_set]
  by_cases e : k = j
  · subst e; rw [if_pos rfl, if_pos (by rw [h.1]; exact hk)]; rfl
  · rw [if_neg e, ← List.getD_eq_getElem?_getD]; exact h.2 j (by omega)
theorem Marked.full {ys : List Int} {m : Int} {n k : Nat} (h : Marked ys m n k) (hk : k = n) : ys = marks m n := by
  subst hk
  apply List.ext_getElem
  · rw [h.1, marks_length]
  · intro j h1 h2
    have a := h.2 j (by rw [h.1] at h1; exact h1)
    have b := marks_get m k j (by rw [h.1] at h1; exact h1)
    rw [List.getD_eq_getElem?_getD, List.getElem?_eq_getElem h1] at a
    rw [List.getD_eq_getElem?_getD, List.getElem?_eq_getElem h2] at b
    simp at a b
    rw [a, b]

theorem grown_trans' {a b c : World} {r : Option Nat} (h : a.grownBy b r) (k : b.grownBy c r) : a.grownBy c r :=
  ⟨k.os.trans h.os, k.tape.trans h.tape, k.output.trans h.output, Nat.le_trans h.size k.size, fun i hi hn => (k.block i (Nat.lt_of_lt_of_le hi h.size) hn).trans (h.block i hi hn)⟩
theorem grown_refl' (w : World) (r : Option Nat) : w.grownBy w r := ⟨rfl, rfl, rfl, Nat.le_refl _, fun _ _ _ => rfl⟩

end Go.Proofs.YtmfcknlpbliehaaDoor

/- l1Own, cyRotate, RotateList, GoodRotations. -/
namespace Go.Proofs.YtmfcknlpbliehaaDoor
open Go.RowKit
set_option linter.unusedVariables false
theorem IRow.empty (w : World) : IRow (w.alloc (.cells #[] 3)) w.heap.size (.slice (some ⟨w.heap.size, 0, none⟩) 0 0) [] :=
  IRow.of_own (World.ownsRow_lit w #[] 0 (Nat.le_refl _) (by simp [maxLen]) rfl) rfl rfl
theorem grown_left {w w' : World} {o : Obj} {row : Option Nat} (h : (w.alloc o).grownBy w' row) : w.grownBy w' row := grown_alloc_left h
set_option maxRecDepth 100000 in
/-- append of what another slice holds to a slice of the call's own -/
theorem wpList_extend {ops : Array Oper} {rest : List Oper} {o : Oper} {a : Act} {Q : Exit → Act → World → Prop} {w : World} (s x : Operand) (hgd : o.guard = none)
    (ho : o.op = .call { callee := .builtin .append, args := #[s, x], argTypes := #[33, 33] })
    (B : Nat) (v : Value) (xs ys : List Int) (hs : a.eval s = v) (hown : IRow w B v xs) (g p c : Nat) (hx : a.eval x = .slice (some ⟨g, p, none⟩) ys.length c)
    (hcells : ∀ j, j < ys.length → w.cell? ⟨g, p + j, none⟩ = some (.int .i64 (ys.getD j 0))) (hlen : xs.length + ys.length ≤ 1099511627776) (hB : B ≤ w.heap.size)
    (h : ∀ v' w', IRow w' B v' (xs ++ ys) → w.grownBy w' v.ownBlock → wpList Tryd.prog ops Q rest (a.put o.dst v') w') :
    wpList Tryd.prog ops Q (o :: rest) a w := by
  obtain ⟨i0, hi, hz0, hz1, hz2⟩ := info_parts intInfo
  refine wpList_append_own_at _ hgd s x 33 ho B 3 i0 (.int .i64 0) 1 8 Tryd.underlying33 hi hz0 hz1 hz2 rfl (by decide) v xs.length (xs.map (Value.int .i64)) hs hown
    ⟨g, p, none⟩ ys.length c (ys.map (Value.int .i64)) hx (by simp) ?_ ?_ ?_ ?_ hB ?_
  · intro j y hj
    rw [List.getElem?_map] at hj
    rcases Nat.lt_or_ge j ys.length with hlt | hge
    · have e := hcells j hlt
      rw [List.getD_eq_getElem?_getD] at e
      rw [List.getElem?_eq_getElem hlt] at hj e
      injection hj with hj
      subst hj
      have e2 : (⟨g, p, none⟩ : Addr).add j = ⟨g, p + j, none⟩ := by unfold Addr.add; split <;> simp_all
      rw [e2]
      exact e
    · rw [List.getElem?_eq_none hge] at hj
      cases hj
  · intro y hy
    rw [List.mem_map] at hy
    obtain ⟨n, _, rfl⟩ := hy
    rfl
  · unfold maxLen; omega
  · omega
  · intro v' w' h1 h2 _ h4
    refine h v' w' ?_ h2
    unfold IRow
    rw [List.length_append, List.map_append]
    exact h1
set_option maxHeartbeats 800000 in
theorem l1Own_any (g o c : Nat) (ys : List Int) (w : World) (hg : g < w.heap.size) (hcells : ∀ j, j < ys.length → w.cell? ⟨g, o + j, none⟩ = some (.int .i64 (ys.getD j 0))) (hl : ys.length ≤ 1048576) :
    Calls Tryd.prog 16 #[.slice (some ⟨g, o, none⟩) ys.length c] w (IntsNew w ys) := by
  have HC : Hid (∀ w1, Below w.heap.size w w1 → ∀ j, j < ys.length → w1.cell? ⟨g, o + j, none⟩ = some (.int .i64 (ys.getD j 0))) := Lib.hid fun w1 hb j hj => (hb.cell (p := ⟨g, o + j, none⟩) hg).trans (hcells j hj)
  clear hcells
  go_enter Tryd.func16, Tryd.ntmps16
  have hb0 := (Below.refl w.heap.size w).alloc (Nat.le_refl _) (.cells #[] 3)
  go_wp2_with (at_builtin; refine wpList_extend (.tmp 3) (.tmp 4) rfl rfl w.heap.size _ [] ys rfl (IRow.empty w) g o c rfl (HC.out _ hb0) (by simp; omega) (by simp) ?_; intro v' w' hrow' hg')
  go_ret
  exact ⟨_, rfl, hrow', hb0.grown hg' (by simp) (fun q hq => by have hq' : some w.heap.size = some q := hq; injection hq' with e; omega)⟩
set_option maxRecDepth 100000 in
/-- the same at a step of a region that draws its order -/
theorem step_extend {ops : Array Oper} {o : Oper} {a : Act} {K : Act → World → Prop} {Q : Exit → Act → World → Prop} {E : Prop} {w : World} (s x : Operand) (hgd : o.guard = none)
    (ho : o.op = .call { callee := .builtin .append, args := #[s, x], argTypes := #[33, 33] })
    (B : Nat) (v : Value) (xs ys : List Int) (hs : a.eval s = v) (hown : IRow w B v xs) (g p c m : Nat) (hm : ys.length = m) (hx : a.eval x = .slice (some ⟨g, p, none⟩) m c)
    (hcells : ∀ j, j < ys.length → w.cell? ⟨g, p + j, none⟩ = some (.int .i64 (ys.getD j 0))) (hlen : xs.length + ys.length ≤ 1099511627776) (hB : B ≤ w.heap.size)
    (h : ∀ v' w', IRow w' B v' (xs ++ ys) → w.grownBy w' v.ownBlock → K (a.put o.dst v') w') :
    if Region.wanted o (yielded ops a.tmps) = true then Oper.wp Tryd.prog o a w K Q else E := by
  subst hm
  obtain ⟨i0, hi, hz0, hz1, hz2⟩ := info_parts intInfo
  have hw : Region.wanted o (yielded ops a.tmps) = true := by simp [Region.wanted, hgd]
  rw [if_pos hw]
  obtain ⟨v', w', hr, h2, h3, h4, h5⟩ := run_append_own_at (P := Tryd.prog) w B 33 o.type 3 i0 (.int .i64 0) 1 8 Tryd.underlying33 hi hz0 hz1 hz2 rfl (by decide) v xs.length (xs.map (Value.int .i64)) hown
    ⟨g, p, none⟩ ys.length c (ys.map (Value.int .i64)) (by simp) (by
      intro j y hj
      rw [List.getElem?_map] at hj
      rcases Nat.lt_or_ge j ys.length with hlt | hge
      · have e := hcells j hlt
        rw [List.getD_eq_getElem?_getD] at e
        rw [List.getElem?_eq_getElem hlt] at hj e
        injection hj with hj
        subst hj
        have e2 : (⟨g, p, none⟩ : Addr).add j = ⟨g, p + j, none⟩ := by unfold Addr.add; split <;> simp_all
        rw [e2]
        exact e
      · rw [List.getElem?_eq_none hge] at hj
        cases hj) (by
      intro y hy
      rw [List.mem_map] at hy
      obtain ⟨n, _, rfl⟩ := hy
      rfl) (by unfold maxLen; omega) (by omega) hB
  unfold Oper.wp execOp
  simp only [ho, resolve, invoke, builtin, Sem.run_bind, Sem.run_pure, Result.andThen_ok, List.map_toArray, List.map_cons, List.map_nil, hs, hx, hr]
  refine h v' w' ?_ h3
  unfold IRow
  rw [List.length_append, List.map_append]
  exact h2
theorem degB_cells {w : World} {A0 : Option Addr} {cap : Nat} {xs : List Int} (h : RInts w (.slice A0 xs.length cap) xs) (hd : degB xs = true) :
    ∃ g o, A0 = some ⟨g, o, none⟩ ∧ g < w.heap.size ∧ ∀ j, j < xs.length → w.cell? ⟨g, o + j, none⟩ = some (.int .i64 (xs.getD j 0)) := by
  have hn := (degB_of hd).1
  obtain ⟨g, o, cc, hv, hg, hc⟩ := h.cells (by omega)
  exact ⟨g, o, by injection hv, hg, hc⟩
def rotOk (xs : List Int) (k : Int) : Bool := degB xs && inB k 0 (xs.length - 1)
def rotV (xs : List Int) (k : Int) : List Int := if rotOk xs k then rot xs k.toNat else []
theorem rotV_len (xs : List Int) (k : Int) (hl : xs.length ≤ 1048576) : (rotV xs k).length ≤ 1048577 := by
  unfold rotV
  split
  · unfold rot
    rw [List.length_append, List.length_drop, List.length_take]
    omega
  · simp
end Go.Proofs.YtmfcknlpbliehaaDoor
