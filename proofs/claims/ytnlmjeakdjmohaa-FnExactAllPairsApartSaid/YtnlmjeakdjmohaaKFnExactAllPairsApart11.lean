/- Pack 11 of what FnExactAllPairsApart needs: Strs, WOwn. -/
import Derived.Test.YtnlmjeakdjmohaaKFnExactAllPairsApart10
import Derived.Deep.RegionHeld3
/- eqStringS, markStringS, heldStringS: the laws' own helpers on slices of strings. -/
namespace Go.Proofs.Ytnlmjeakdjmohaa
open Go.RowKit

/-- the texts m, m+1, .. -/
def smarks (m : Nat) (n : Nat) : List ByteArray := (List.range n).map fun j => mt (m + j)
theorem smarks_length (m n : Nat) : (smarks m n).length = n := by simp [smarks]
theorem smarks_get (m n k : Nat) (h : k < n) : (smarks m n).getD k ByteArray.empty = mt (m + k) := by
  unfold smarks; rw [List.getD_eq_getElem?_getD, List.getElem?_map, List.getElem?_range h]; rfl
/-- the first k are marked -/
def SMarked (ys : List ByteArray) (m n k : Nat) : Prop := ys.length = n ∧ ∀ j, j < k → ys.getD j ByteArray.empty = mt (m + j)
theorem SMarked.zero {ys : List ByteArray} {n : Nat} (m : Nat) (h : ys.length = n) : SMarked ys m n 0 := ⟨h, fun _ h => absurd h (by omega)⟩
theorem SMarked.succ {ys : List ByteArray} {m n k : Nat} (h : SMarked ys m n k) (hk : k < n) : SMarked (ys.set k (mt (m + k))) m n (k + 1) := by
  refine ⟨by rw [List.length_set]; exact h.1, fun j hj => ?_⟩
  rw [List.getD_eq_getElem?_getD, List.getElem?_set]
  by_cases e : k = j
  · subst e; rw [if_pos rfl, if_pos (by rw [h.1]; exact hk)]; rfl
  · rw [if_neg e, ← List.getD_eq_getElem?_getD]; exact h.2 j (by omega)
theorem SMarked.full {ys : List ByteArray} {m n k : Nat} (h : SMarked ys m n k) (hk : k = n) : ys = smarks m n := by
  subst hk
  apply List.ext_getElem
  · rw [h.1, smarks_length]
  · intro j h1 h2
    have a := h.2 j (by rw [h.1] at h1; exact h1)
    have b := smarks_get m k j (by rw [h.1] at h1; exact h1)
    rw [List.getD_eq_getElem?_getD, List.getElem?_eq_getElem h1] at a
    rw [List.getD_eq_getElem?_getD, List.getElem?_eq_getElem h2] at b
    simp at a b
    rw [a, b]
theorem below_grown {w w' : World} (hb : Below w.heap.size w w') (r : Option Nat) : w.grownBy w' r := ⟨hb.os, hb.tape, hb.output, hb.size, fun k hk _ => hb.block k hk⟩

theorem keepS {w0 W W' : World} {g k : Nat} {x : Value} (h : W.cell? ⟨g, k, none⟩ = some x ∧ Below w0.heap.size w0 W) (hg : g < w0.heap.size) (hb : Below W.heap.size W W') : W'.cell? ⟨g, k, none⟩ = some x ∧ Below w0.heap.size w0 W' :=
  ⟨(hb.cell (p := ⟨g, k, none⟩) (Nat.lt_of_lt_of_le hg h.2.size)).trans h.1, h.2.trans (hb.mono h.2.size)⟩
theorem keepB {w0 W : World} {g k : Nat} {x : Value} (h : W.cell? ⟨g, k, none⟩ = some x ∧ Below w0.heap.size w0 W) : Below w0.heap.size w0 W := h.2
end Go.Proofs.Ytnlmjeakdjmohaa

/- Words for memory: a slice of ways that the call owns; eqWayS, markWayS, heldWayS. -/
namespace Go.Proofs.Ytnlmjeakdjmohaa
open Go.RowKit
set_option linter.unusedVariables false
theorem wayInfo : (Try.prog.info? 56).map (fun i => (i.zero, i.size, i.bytes)) = some (some (.agg #[.int .i64 0, .int .i64 0, .string ⟨#[]⟩]), 3, 32) := by kernel_rfl
def wyC (t : Wy) : List Value := [.int .i64 t.1, .int .i64 t.2.1, .string t.2.2]
def wyL (L : List Wy) : List Value := L.flatMap wyC
theorem wyL_cons (t : Wy) (L : List Wy) : wyL (t :: L) = .int .i64 t.1 :: .int .i64 t.2.1 :: .string t.2.2 :: wyL L := by unfold wyL; rw [List.flatMap_cons]; rfl
theorem wyL_app (L M : List Wy) : wyL (L ++ M) = wyL L ++ wyL M := by unfold wyL; rw [List.flatMap_append]
theorem wyL_length : ∀ (L : List Wy), (wyL L).length = L.length * 3
  | [] => rfl
  | t :: L => by rw [wyL_cons, List.length_cons, List.length_cons, List.length_cons, List.length_cons, wyL_length L]; omega
theorem wyL_get : ∀ (L : List Wy) (j : Nat), j < L.length → (wyL L)[j * 3]? = some (.int .i64 (wg L j).1) ∧ (wyL L)[j * 3 + 1]? = some (.int .i64 (wg L j).2.1) ∧ (wyL L)[j * 3 + 2]? = some (.string (wg L j).2.2)
  | [], j, h => absurd h (by simp)
  | t :: L, 0, _ => ⟨rfl, rfl, rfl⟩
  | t :: L, j + 1, h => by
    have := wyL_get L j (by simpa using h)
    rw [wyL_cons, show (j + 1) * 3 = j * 3 + 1 + 1 + 1 by omega, show j * 3 + 1 + 1 + 1 + 1 = j * 3 + 1 + 1 + 1 + 1 from rfl]
    refine ⟨this.1, ?_, ?_⟩
    · exact this.2.1
    · exact this.2.2
theorem wyL_set0 : ∀ (L : List Wy) (j : Nat) (u : Int), j < L.length → (wyL L).set (j * 3) (.int .i64 u) = wyL (L.set j (u, (wg L j).2.1, (wg L j).2.2))
  | [], j, u, h => absurd h (by simp)
  | t :: L, 0, u, _ => rfl
  | t :: L, j + 1, u, h => by
    have := wyL_set0 L j u (by simpa using h)
    rw [wyL_cons, show (j + 1) * 3 = j * 3 + 1 + 1 + 1 by omega, List.set_cons_succ, List.set_cons_succ, List.set_cons_succ, this, List.set_cons_succ, wyL_cons]
    rfl
theorem wyL_set1 : ∀ (L : List Wy) (j : Nat) (u : Int), j < L.length → (wyL L).set (j * 3 + 1) (.int .i64 u) = wyL (L.set j ((wg L j).1, u, (wg L j).2.2))
  | [], j, u, h => absurd h (by simp)
  | t :: L, 0, u, _ => rfl
  | t :: L, j + 1, u, h => by
    have := wyL_set1 L j u (by simpa using h)
    rw [wyL_cons, show (j + 1) * 3 + 1 = j * 3 + 1 + 1 + 1 + 1 by omega, List.set_cons_succ, List.set_cons_succ, List.set_cons_succ, this, List.set_cons_succ, wyL_cons]
    rfl
theorem wyL_set2 : ∀ (L : List Wy) (j : Nat) (u : ByteArray), j < L.length → (wyL L).set (j * 3 + 2) (.string u) = wyL (L.set j ((wg L j).1, (wg L j).2.1, u))
  | [], j, u, h => absurd h (by simp)
  | t :: L, 0, u, _ => rfl
  | t :: L, j + 1, u, h => by
    have := wyL_set2 L j u (by simpa using h)
    rw [wyL_cons, show (j + 1) * 3 + 2 = j * 3 + 2 + 1 + 1 + 1 by omega, List.set_cons_succ, List.set_cons_succ, List.set_cons_succ, this, List.set_cons_succ, wyL_cons]
    rfl
def WRow (w : World) (B : Nat) (v : Value) (L : List Wy) : Prop := w.ownsRow B 56 3 v L.length (wyL L)
section
variable {w w' : World} {B n : Nat} {v : Value} {L : List Wy}
theorem WRow.nil (w : World) (B : Nat) : WRow w B (.slice none 0 0) [] := World.ownsRow_nil _ _ _ _
theorem WRow.mono (h : WRow w B v L) {B' : Nat} (hb : B' ≤ B) : WRow w B' v L := by
  refine ⟨h.1, ?_⟩
  rcases h.2 with h2 | ⟨g, cap, cur, hv, hg, r⟩
  · exact .inl h2
  · exact .inr ⟨g, cap, cur, hv, Nat.le_trans hb hg, r⟩
theorem WRow.drewN (h : WRow w B v L) (k : Nat) : WRow (w.drewN k) B v L := h
theorem WRow.below (h : WRow w B v L) (hb : Below w.heap.size w w') : WRow w' B v L :=
  World.ownsRow.kept (row := none) h ⟨hb.os, hb.tape, hb.output, hb.size, fun k hk _ => hb.block k hk⟩ (by cases v.ownBlock <;> simp)
theorem WRow.apart {r : Option Nat} (h : WRow w B v L) (hg : w.grownBy w' r) (hne : ∀ k, v.ownBlock = some k → some k ≠ r) : WRow w' B v L :=
  World.ownsRow.kept h hg (by
    cases e : v.ownBlock with
    | none => exact .inl rfl
    | some k => exact .inr (hne k e))
theorem WRow.shape (h : WRow w B v L) : ∃ A c, v = .slice A L.length c := by
  rcases h.2 with ⟨h1, h0⟩ | ⟨g, cap, cur, hv, _⟩
  · exact ⟨none, 0, by rw [h1, h0]⟩
  · exact ⟨_, cap, hv⟩
theorem WRow.form (h : WRow w B v L) (hn : L.length = n) (hx : 0 < n) : ∃ g c, v = .slice (some ⟨g, 0, none⟩) n c ∧ B ≤ g ∧ g < w.heap.size := by
  subst hn
  rcases h.2 with ⟨_, h0⟩ | ⟨g, cap, cur, hv, hg, hh, _⟩
  · omega
  · exact ⟨g, cap, hv, hg, (Array.getElem?_eq_some_iff.1 hh).1⟩
theorem WRow.blk (h : WRow w B v L) : ∀ k, v.ownBlock = some k → B ≤ k ∧ k < w.heap.size := World.ownsRow.lt h
theorem WRow.len {g c : Nat} (h : WRow w B (.slice (some ⟨g, 0, none⟩) n c) L) : n = L.length := by
  rcases h.2 with ⟨h0, _⟩ | ⟨g', cap, cur, hv, _⟩
  · simp at h0
  · simp at hv; exact hv.2.1
theorem WRow.cell {g c : Nat} (h : WRow w B (.slice (some ⟨g, 0, none⟩) n c) L) {j : Nat} (hj : j < L.length) :
    w.cell? ⟨g, j * 3, none⟩ = some (.int .i64 (wg L j).1) ∧ w.cell? ⟨g, j * 3 + 1, none⟩ = some (.int .i64 (wg L j).2.1) ∧ w.cell? ⟨g, j * 3 + 2, none⟩ = some (.string (wg L j).2.2) := by
  have hn := h.len
  subst hn
  have := wyL_get L j hj
  exact ⟨by rw [World.ownsRow.cellAt h (j * 3) (by omega)]; exact this.1, by rw [World.ownsRow.cellAt h (j * 3 + 1) (by omega)]; exact this.2.1, by rw [World.ownsRow.cellAt h (j * 3 + 2) (by omega)]; exact this.2.2⟩
theorem WRow.free {g c : Nat} (h : WRow w B (.slice (some ⟨g, 0, none⟩) n c) L) (j : Nat) : w.frozen? ⟨g, j, none⟩ = false := by
  have hn := h.len
  subst hn
  exact World.ownsRow.frozenAt h j
theorem WRow.set0 {g c : Nat} (h : WRow w B (.slice (some ⟨g, 0, none⟩) n c) L) {j : Nat} (hj : j < L.length) (u : Int) :
    WRow (w.setCell ⟨g, j * 3, none⟩ (.int .i64 u)) B (.slice (some ⟨g, 0, none⟩) n c) (L.set j (u, (wg L j).2.1, (wg L j).2.2)) ∧ w.grownBy (w.setCell ⟨g, j * 3, none⟩ (.int .i64 u)) (some g) := by
  have hn := h.len
  subst hn
  have := World.ownsRow.stored h (j * 3) (.int .i64 u)
  rw [wyL_set0 L j u hj] at this
  exact ⟨by unfold WRow; rw [List.length_set]; exact this.1, this.2⟩
theorem WRow.set1 {g c : Nat} (h : WRow w B (.slice (some ⟨g, 0, none⟩) n c) L) {j : Nat} (hj : j < L.length) (u : Int) :
    WRow (w.setCell ⟨g, j * 3 + 1, none⟩ (.int .i64 u)) B (.slice (some ⟨g, 0, none⟩) n c) (L.set j ((wg L j).1, u, (wg L j).2.2)) ∧ w.grownBy (w.setCell ⟨g, j * 3 + 1, none⟩ (.int .i64 u)) (some g) := by
  have hn := h.len
  subst hn
  have := World.ownsRow.stored h (j * 3 + 1) (.int .i64 u)
  rw [wyL_set1 L j u hj] at this
  exact ⟨by unfold WRow; rw [List.length_set]; exact this.1, this.2⟩
theorem WRow.set2 {g c : Nat} (h : WRow w B (.slice (some ⟨g, 0, none⟩) n c) L) {j : Nat} (hj : j < L.length) (u : ByteArray) :
    WRow (w.setCell ⟨g, j * 3 + 2, none⟩ (.string u)) B (.slice (some ⟨g, 0, none⟩) n c) (L.set j ((wg L j).1, (wg L j).2.1, u)) ∧ w.grownBy (w.setCell ⟨g, j * 3 + 2, none⟩ (.string u)) (some g) := by
  have hn := h.len
  subst hn
  have := World.ownsRow.stored h (j * 3 + 2) (.string u)
  rw [wyL_set2 L j u hj] at this
  exact ⟨by unfold WRow; rw [List.length_set]; exact this.1, this.2⟩
theorem WRow.reads (h : WRow w B v L) (hs : ∀ t ∈ L, t.2.2.size ≤ maxLen) : RWays w v L.length L := by
  refine ⟨h.shape, fun A k c e => ?_, fun j hj => ?_, fun h0 => ?_⟩
  · rcases h.2 with ⟨h1, _⟩ | ⟨g, cap, cur, h1, _, _, h2, h3, _⟩
    · rw [h1] at e
      injection e with e1 e2 e3
      subst e2 e3
      exact ⟨Nat.le_refl _, by simp [maxLen]⟩
    · rw [h1] at e
      injection e with e1 e2 e3
      subst e2 e3
      exact ⟨h2, h3⟩
  · refine hs _ ?_
    unfold wg
    rw [List.getD_eq_getElem?_getD, List.getElem?_eq_getElem hj]
    exact List.getElem_mem hj
  · obtain ⟨g, c, hv, _, hg⟩ := h.form rfl h0
    subst hv
    exact ⟨g, 0, c, rfl, hg, fun j hj => by rw [Nat.zero_add]; exact h.cell hj⟩
end
/-- append of one way to a slice of the call's own -/
theorem wpList_pushW {ops : Array Oper} {rest : List Oper} {o : Oper} {a : Act} {Q : Exit → Act → World → Prop} {w : World} (p q : Int) (z : ByteArray) (s x : Operand) (hgd : o.guard = none)
    (ho : o.op = .call { callee := .builtin .append, args := #[s, x], argTypes := #[24, 24] })
    (B : Nat) (v : Value) (L : List Wy) (hs : a.eval s = v) (hown : WRow w B v L) (gb : Nat) (hx : a.eval x = .slice (some ⟨gb, 0, none⟩) 1 1)
    (hc0 : w.cell? ⟨gb, 0, none⟩ = some (.int .i64 p)) (hc1 : w.cell? ⟨gb, 1, none⟩ = some (.int .i64 q)) (hc2 : w.cell? ⟨gb, 2, none⟩ = some (.string z))
    (hlen : L.length ≤ 1048576) (hB : B ≤ w.heap.size)
    (h : ∀ v' w', WRow w' B v' (L ++ [(p, q, z)]) → w.grownBy w' v.ownBlock → (v'.ownBlock = v.ownBlock ∨ ∃ g, v'.ownBlock = some g ∧ w.heap.size ≤ g) → wpList Try.prog ops Q rest (a.put o.dst v') w') :
    wpList Try.prog ops Q (o :: rest) a w := by
  obtain ⟨i0, hi, hz0, hz1, hz2⟩ := info_parts wayInfo
  refine wpList_append_own_at _ hgd s x 24 ho B 56 i0 _ 3 32 Try.underlying24 hi hz0 hz1 hz2 rfl (by decide) v L.length (wyL L) hs hown
    ⟨gb, 0, none⟩ 1 1 [.int .i64 p, .int .i64 q, .string z] hx rfl ?_ ?_ ?_ ?_ ?_ ?_
  · intro j y hj
    match j, hj with
    | 0, hj => simp at hj; subst hj; simpa [Addr.add] using hc0
    | 1, hj => simp at hj; subst hj; simpa [Addr.add] using hc1
    | 2, hj => simp at hj; subst hj; simpa [Addr.add] using hc2
  · intro y hy
    simp at hy
    rcases hy with rfl | rfl | rfl <;> rfl
  · unfold maxLen; omega
  · omega
  · omega
  · intro v' w' h1 h2 _ h4
    refine h v' w' ?_ h2 ?_
    · unfold WRow
      rw [List.length_append, wyL_app]
      exact h1
    · rcases h4 with h4 | h4
      · exact .inl h4
      · exact .inr ⟨_, h4, by simp⟩
/-- a call that hands back a slice of ways of its own and a bool -/
def WsRet (w : World) (ok : Bool) (L : List Wy) (e : Ending) (w' : World) : Prop :=
  ∃ v, e = .returned (.tuple #[v, .bool ok]) ∧ WRow w' w.heap.size v L ∧ Below w.heap.size w w'
end Go.Proofs.Ytnlmjeakdjmohaa
