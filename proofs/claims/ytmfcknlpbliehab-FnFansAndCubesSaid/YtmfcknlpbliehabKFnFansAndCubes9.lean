/- Pack 9 of what FnFansAndCubes needs: QbS, CqLaw, COwn. -/
import Derived.Test.YtmfcknlpbliehabKFnFansAndCubes8
import Derived.Deep.RegionHeld3
/- Two numbers in a box. -/
namespace Go.Proofs.Ytmfcknlpbliehab
open Go.RowKit
set_option linter.unusedVariables false
/-- a box of two numbers at b -/
structure QB (b : Nat) (n d : Int) (X : World) : Prop where
  c0 : X.cell? ⟨b, 0, none⟩ = some (.int .i64 n)
  c1 : X.cell? ⟨b, 1, none⟩ = some (.int .i64 d)
  lt : b < X.heap.size
theorem QB.below {b : Nat} {n d : Int} {X X' : World} (h : QB b n d X) (hb : Below X.heap.size X X') : QB b n d X' :=
  ⟨(hb.cell (p := ⟨b, 0, none⟩) h.lt).trans h.c0, (hb.cell (p := ⟨b, 1, none⟩) h.lt).trans h.c1, Nat.lt_of_lt_of_le h.lt hb.size⟩
theorem QB.new (X : World) (n d : Int) (t : TypeId) : QB X.heap.size n d (X.alloc (.cells #[.int .i64 n, .int .i64 d] t)) := ⟨by simp [go_sem], by simp [go_sem], by simp⟩
end Go.Proofs.Ytmfcknlpbliehab

/- The laws' own words on cells: copies, comparisons. -/
namespace Go.Proofs.Ytmfcknlpbliehab
open Go.RowKit
set_option linter.unusedVariables false
end Go.Proofs.Ytmfcknlpbliehab

/- Words for memory: a slice of cells that the call owns, told by its numbers one behind the other; eqCellS, markCellS, heldCellS. -/
namespace Go.Proofs.Ytmfcknlpbliehab
open Go.RowKit
set_option linter.unusedVariables false
theorem celInfo : (Try.prog.info? 54).map (fun i => (i.zero, i.size, i.bytes)) = some (some (.agg #[.int .i64 0, .int .i64 0]), 2, 16) := by kernel_rfl
def CRow (w : World) (B : Nat) (v : Value) (n : Nat) (xs : List Int) : Prop := w.ownsRow B 54 2 v n (xs.map (Value.int .i64)) ∧ xs.length = n * 2
section
variable {w w' : World} {B n : Nat} {v : Value} {xs : List Int}
theorem CRow.nil (w : World) (B : Nat) : CRow w B (.slice none 0 0) 0 [] := ⟨World.ownsRow_nil _ _ _ _, rfl⟩
theorem CRow.mono (h : CRow w B v n xs) {B' : Nat} (hb : B' ≤ B) : CRow w B' v n xs := by
  refine ⟨⟨h.1.1, ?_⟩, h.2⟩
  rcases h.1.2 with h2 | ⟨g, cap, cur, hv, hg, r⟩
  · exact .inl h2
  · exact .inr ⟨g, cap, cur, hv, Nat.le_trans hb hg, r⟩
theorem CRow.drewN (h : CRow w B v n xs) (k : Nat) : CRow (w.drewN k) B v n xs := h
theorem CRow.below (h : CRow w B v n xs) (hb : Below w.heap.size w w') : CRow w' B v n xs :=
  ⟨World.ownsRow.kept (row := none) h.1 ⟨hb.os, hb.tape, hb.output, hb.size, fun k hk _ => hb.block k hk⟩ (by cases v.ownBlock <;> simp), h.2⟩
theorem CRow.shape (h : CRow w B v n xs) : ∃ A c, v = .slice A n c := by
  rcases h.1.2 with ⟨h1, h0⟩ | ⟨g, cap, cur, hv, _⟩
  · exact ⟨none, 0, by rw [h1, h0]⟩
  · exact ⟨_, cap, hv⟩
theorem CRow.form (h : CRow w B v n xs) (hx : 0 < n) : ∃ g c, v = .slice (some ⟨g, 0, none⟩) n c ∧ B ≤ g ∧ g < w.heap.size := by
  rcases h.1.2 with ⟨_, h0⟩ | ⟨g, cap, cur, hv, hg, hh, _⟩
  · omega
  · exact ⟨g, cap, hv, hg, (Array.getElem?_eq_some_iff.1 hh).1⟩
theorem CRow.blk (h : CRow w B v n xs) : ∀ k, v.ownBlock = some k → B ≤ k ∧ k < w.heap.size := World.ownsRow.lt h.1
theorem CRow.cell {g c : Nat} (h : CRow w B (.slice (some ⟨g, 0, none⟩) n c) n xs) {j : Nat} (hj : j < n * 2) : w.cell? ⟨g, j, none⟩ = some (.int .i64 (xs.getD j 0)) := by
  rw [World.ownsRow.cellAt h.1 j (by omega)]
  have := h.2
  simp [show j < xs.length by omega]
theorem CRow.free {g c : Nat} (h : CRow w B (.slice (some ⟨g, 0, none⟩) n c) n xs) (j : Nat) : w.frozen? ⟨g, j, none⟩ = false := World.ownsRow.frozenAt h.1 j
theorem CRow.set {g c : Nat} (h : CRow w B (.slice (some ⟨g, 0, none⟩) n c) n xs) (j : Nat) (u : Int) :
    CRow (w.setCell ⟨g, j, none⟩ (.int .i64 u)) B (.slice (some ⟨g, 0, none⟩) n c) n (xs.set j u) ∧ w.grownBy (w.setCell ⟨g, j, none⟩ (.int .i64 u)) (some g) := by
  have := World.ownsRow.stored h.1 j (.int .i64 u)
  refine ⟨⟨?_, by rw [List.length_set]; exact h.2⟩, this.2⟩
  have h1 := this.1
  rw [List.map_set]
  exact h1
end
theorem CRow.grown_other {w w' : World} {B B2 n : Nat} {v v2 : Value} {xs : List Int} (h : CRow w B v n xs) (hg : w.grownBy w' v2.ownBlock) (hv : ∀ k, v.ownBlock = some k → k < B2) (hv2 : ∀ k, v2.ownBlock = some k → B2 ≤ k) : CRow w' B v n xs :=
  ⟨World.ownsRow.kept h.1 hg (by
    cases e : v.ownBlock with
    | none => exact .inl rfl
    | some k =>
      right
      intro e2
      have a := hv k e
      have b := hv2 k e2.symm
      omega), h.2⟩
/-- two rows of the same numbers, and what lies below -/
structure CQ2 (w : World) (B1 B2 : Nat) (v1 v2 : Value) (n : Nat) (xs : List Int) (X : World) : Prop where
  a : CRow X B1 v1 n xs
  b : CRow X B2 v2 n xs
  below : Below w.heap.size w X
theorem CQ2.kept {w X X' : World} {B1 B2 n : Nat} {v1 v2 : Value} {xs : List Int} (h : CQ2 w B1 B2 v1 v2 n xs X) (hb : Below X.heap.size X X') : CQ2 w B1 B2 v1 v2 n xs X' := ⟨h.a.below hb, h.b.below hb, h.below.trans (hb.mono h.below.size)⟩
theorem ceMk {w X : World} {B1 B2 n g1 g2 c1 c2 k : Nat} {xs : List Int} {x0 x1 : Int} (h : CQ2 w B1 B2 (.slice (some ⟨g1, 0, none⟩) n c1) (.slice (some ⟨g2, 0, none⟩) n c2) n xs X) (hk : k < n) (h0 : xs.getD (k * 2) 0 = x0) (h1 : xs.getD (k * 2 + 1) 0 = x1) :
    X.cell? ⟨g1, k * 2, none⟩ = some (.int .i64 x0) ∧ X.cell? ⟨g1, k * 2 + 1, none⟩ = some (.int .i64 x1) ∧ X.cell? ⟨g2, k * 2, none⟩ = some (.int .i64 x0) ∧ X.cell? ⟨g2, k * 2 + 1, none⟩ = some (.int .i64 x1) ∧ CQ2 w B1 B2 (.slice (some ⟨g1, 0, none⟩) n c1) (.slice (some ⟨g2, 0, none⟩) n c2) n xs X := by
  subst h0 h1
  exact ⟨h.a.cell (by omega), h.a.cell (by omega), h.b.cell (by omega), h.b.cell (by omega), h⟩
theorem ceKeep {w X X' : World} {B1 B2 n g1 g2 c1 c2 k : Nat} {xs : List Int} {x0 x1 : Int} (h : X.cell? ⟨g1, k * 2, none⟩ = some (.int .i64 x0) ∧ X.cell? ⟨g1, k * 2 + 1, none⟩ = some (.int .i64 x1) ∧ X.cell? ⟨g2, k * 2, none⟩ = some (.int .i64 x0) ∧ X.cell? ⟨g2, k * 2 + 1, none⟩ = some (.int .i64 x1) ∧ CQ2 w B1 B2 (.slice (some ⟨g1, 0, none⟩) n c1) (.slice (some ⟨g2, 0, none⟩) n c2) n xs X)
    (hk : Hid (k < n ∧ xs.getD (k * 2) 0 = x0 ∧ xs.getD (k * 2 + 1) 0 = x1)) (hb : Below X.heap.size X X') :
    X'.cell? ⟨g1, k * 2, none⟩ = some (.int .i64 x0) ∧ X'.cell? ⟨g1, k * 2 + 1, none⟩ = some (.int .i64 x1) ∧ X'.cell? ⟨g2, k * 2, none⟩ = some (.int .i64 x0) ∧ X'.cell? ⟨g2, k * 2 + 1, none⟩ = some (.int .i64 x1) ∧ CQ2 w B1 B2 (.slice (some ⟨g1, 0, none⟩) n c1) (.slice (some ⟨g2, 0, none⟩) n c2) n xs X' :=
  ceMk (h.2.2.2.2.kept hb) hk.out.1 hk.out.2.1 hk.out.2.2
theorem ceOf {w X : World} {B1 B2 n g1 g2 c1 c2 k : Nat} {xs : List Int} {x0 x1 : Int} (h : X.cell? ⟨g1, k * 2, none⟩ = some (.int .i64 x0) ∧ X.cell? ⟨g1, k * 2 + 1, none⟩ = some (.int .i64 x1) ∧ X.cell? ⟨g2, k * 2, none⟩ = some (.int .i64 x0) ∧ X.cell? ⟨g2, k * 2 + 1, none⟩ = some (.int .i64 x1) ∧ CQ2 w B1 B2 (.slice (some ⟨g1, 0, none⟩) n c1) (.slice (some ⟨g2, 0, none⟩) n c2) n xs X) : CQ2 w B1 B2 (.slice (some ⟨g1, 0, none⟩) n c1) (.slice (some ⟨g2, 0, none⟩) n c2) n xs X := h.2.2.2.2
/-- append of one cell to a slice of the call's own -/
theorem wpList_pushC {ops : Array Oper} {rest : List Oper} {o : Oper} {a : Act} {Q : Exit → Act → World → Prop} {w : World} (p q : Int) (s x : Operand) (hgd : o.guard = none)
    (ho : o.op = .call { callee := .builtin .append, args := #[s, x], argTypes := #[52, 52] })
    (B : Nat) (v : Value) (n : Nat) (xs : List Int) (hs : a.eval s = v) (hown : CRow w B v n xs) (gb : Nat) (hgb : gb = w.heap.size) (hx : a.eval x = .slice (some ⟨gb, 0, none⟩) 1 1)
    (hlen : n ≤ 1048576) (hB : B ≤ w.heap.size)
    (h : ∀ v' w', CRow w' B v' (n + 1) (xs ++ [p, q]) → w.grownBy w' v.ownBlock → (v'.ownBlock = v.ownBlock ∨ ∃ g, v'.ownBlock = some g ∧ w.heap.size ≤ g) → wpList Try.prog ops Q rest (a.put o.dst v') w') :
    wpList Try.prog ops Q (o :: rest) a (w.alloc (.cells #[.int .i64 p, .int .i64 q] 54)) := by
  subst hgb
  obtain ⟨i0, hi, hz0, hz1, hz2⟩ := info_parts celInfo
  have hxl := hown.2
  refine wpList_append_own_at _ hgd s x 52 ho B 54 i0 _ 2 16 Try.underlying52 hi hz0 hz1 hz2 rfl (by decide) v n (xs.map (Value.int .i64)) hs (World.ownsRow.alloc hown.1 _)
    ⟨w.heap.size, 0, none⟩ 1 1 [.int .i64 p, .int .i64 q] hx rfl ?_ ?_ ?_ ?_ ?_ ?_
  · intro j y hj
    match j, hj with
    | 0, hj => simp at hj; subst hj; simp [Addr.add]
    | 1, hj => simp at hj; subst hj; simp [Addr.add]
  · intro y hy
    simp at hy
    rcases hy with rfl | rfl <;> rfl
  · unfold maxLen; omega
  · omega
  · simp; omega
  · intro v' w' h1 h2 _ h4
    refine h v' w' ⟨?_, by rw [List.length_append, hxl]; simp; omega⟩ (grown_alloc_left h2) ?_
    · rw [List.map_append]
      exact h1
    · rcases h4 with h4 | h4
      · exact .inl h4
      · exact .inr ⟨_, h4, by simp⟩
/-- what make hands back -/
theorem made_pairsC (n : Nat) : (madeCells (Value.agg #[.int .i64 0, .int .i64 0]).cells (n * 2)).toList = (List.replicate (n * 2) (0 : Int)).map (Value.int .i64) := by
  have hc : (Value.agg #[.int .i64 0, .int .i64 0]).cells = #[Value.int .i64 0, Value.int .i64 0] := by simp [Value.cells]
  rw [hc]
  apply List.ext_getElem?
  intro j
  by_cases hj : j < n * 2
  · rcases (show j % 2 = 0 ∨ j % 2 = 1 by omega) with h | h <;> simp [madeCells, hj, h]
  · simp [madeCells, hj]
/-- a call that hands back a slice of cells of its own and a bool -/
def CsRet (w : World) (ok : Bool) (n : Nat) (xs : List Int) (e : Ending) (w' : World) : Prop :=
  ∃ v, e = .returned (.tuple #[v, .bool ok]) ∧ CRow w' w.heap.size v n xs ∧ Below w.heap.size w w'
end Go.Proofs.Ytmfcknlpbliehab
