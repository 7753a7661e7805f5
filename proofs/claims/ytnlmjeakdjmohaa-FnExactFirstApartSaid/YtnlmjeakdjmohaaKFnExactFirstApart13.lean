/- Pack 13 of what FnExactFirstApart needs: WOwn, WMark. -/
import Derived.Test.YtnlmjeakdjmohaaKFnExactFirstApart12
import Derived.Deep.RegionHeld3
/- Words for memory: a slice of ways that the call owns; eqWayS, markWayS, heldWayS. -/
namespace Go.Proofs.Ytnlmjeakdjmohaa
open Go.RowKit
set_option linter.unusedVariables false
theorem wayInfo : (Try.prog.info? 56).map (fun i => (i.zero, i.size, i.bytes)) = some (some (.agg #[.int .i64 0, .int .i64 0, .string ⟨#[]⟩]), 3, 32) := by kernel_rfl
def wyC (t : Wy) : List Value := [.int .i64 t.1, .int .i64 t.2.1, .string t.2.2]
def wyL (L : List Wy) : List Value := L.flatMap wyC
theorem wyL_cons (t : Wy) (L : List Wy) : wyL (t :: L) = .int .i64 t.1 :: .int .i64 t.2.1 :: .string t.2.2 :: wyL L := by unfold wyL; rw [List.flatMap_cons]; rfl
theorem wyL_app (L M : List Wy) : wyL (L ++ M) = wyL L ++ wyL M := by unfold wyL; rw [List.flatMap_append]
theorem wyL_length : ∀ (L : List Wy), (wyL L).length = L.length * 3
  | [] => rfl
  | t :: L => by rw [wyL_cons, List.length_cons, List.length_cons, List.length_cons, List.length_cons, wyL_length L]; omega
theorem wyL_get : ∀ (L : List Wy) (j : Nat), j < L.length → (wyL L)[j * 3]? = some (.int .i64 (wg L j).1) ∧ (wyL L)[j * 3 + 1]? = some (.int .i64 (wg L j).2.1) ∧ (wyL L)[j * 3 + 2]? = some (.string (wg L j).2.2)
  | [], j, h => absurd h (by simp)
  | t :: L, 0, _ => ⟨rfl, rfl, rfl⟩
  | t :: L, j + 1, h => by
    have := wyL_get L j (by simpa using h)
    rw [wyL_cons, show (j + 1) * 3 = j * 3 + 1 + 1 + 1 by omega, show j * 3 + 1 + 1 + 1 + 1 = j * 3 + 1 + 1 + 1 + 1 from rfl]
    refine ⟨this.1, ?_, ?_⟩
    · exact this.2.1
    · exact this.2.2
theorem wyL_set0 : ∀ (L : List Wy) (j : Nat) (u : Int), j < L.length → (wyL L).set (j * 3) (.int .i64 u) = wyL (L.set j (u, (wg L j).2.1, (wg L j).2.2))
  | [], j, u, h => absurd h (by simp)
  | t :: L, 0, u, _ => rfl
  | t :: L, j + 1, u, h => by
    have := wyL_set0 L j u (by simpa using h)
    rw [wyL_cons, show (j + 1) * 3 = j * 3 + 1 + 1 + 1 by omega, List.set_cons_succ, List.set_cons_succ, List.set_cons_succ, this, List.set_cons_succ, wyL_cons]
    rfl
theorem wyL_set1 : ∀ (L : List Wy) (j : Nat) (u : Int), j < L.length → (wyL L).set (j * 3 + 1) (.int .i64 u) = wyL (L.set j ((wg L j).1, u, (wg L j).2.2))
  | [], j, u, h => absurd h (by simp)
  | t :: L, 0, u, _ => rfl
  | t :: L, j + 1, u, h => by
    have := wyL_set1 L j u (by simpa using h)
    rw [wyL_cons, show (j + 1) * 3 + 1 = j * 3 + 1 + 1 + 1 + 1 by omega, List.set_cons_succ, List.set_cons_succ, List.set_cons_succ, this, List.set_cons_succ, wyL_cons]
    rfl
theorem wyL_set2 : ∀ (L : List Wy) (j : Nat) (u : ByteArray), j < L.length → (wyL L).set (j * 3 + 2) (.string u) = wyL (L.set j ((wg L j).1, (wg L j).2.1, u))
  | [], j, u, h => absurd h (by simp)
  | t :: L, 0, u, _ => rfl
  | t :: L, j + 1, u, h => by
    have := wyL_set2 L j u (by simpa using h)
    rw [wyL_cons, show (j + 1) * 3 + 2 = j * 3 + 2 + 1 + 1 + 1 by omega, List.set_cons_succ, List.set_cons_succ, List.set_cons_succ, this, List.set_cons_succ, wyL_cons]
    rfl
def WRow (w : World) (B : Nat) (v : Value) (L : List Wy) : Prop := w.ownsRow B 56 3 v L.length (wyL L)
section
variable {w w' : World} {B n : Nat} {v : Value} {L : List Wy}
theorem WRow.nil (w : World) (B : Nat) : WRow w B (.slice none 0 0) [] := World.ownsRow_nil _ _ _ _
theorem WRow.mono (h : WRow w B v L) {B' : Nat} (hb : B' ≤ B) : WRow w B' v L := by
  refine ⟨h.1, ?_⟩
  rcases h.2 with h2 | ⟨g, cap, cur, hv, hg, r⟩
  · exact .inl h2
  · exact .inr ⟨g, cap, cur, hv, Nat.le_trans hb hg, r⟩
theorem WRow.drewN (h : WRow w B v L) (k : Nat) : WRow (w.drewN k) B v L := h
theorem WRow.below (h : WRow w B v L) (hb : Below w.heap.size w w') : WRow w' B v L :=
  World.ownsRow.kept (row := none) h ⟨hb.os, hb.tape, hb.output, hb.size, fun k hk _ => hb.block k hk⟩ (by cases v.ownBlock <;> simp)
theorem WRow.apart {r : Option Nat} (h : WRow w B v L) (hg : w.grownBy w' r) (hne : ∀ k, v.ownBlock = some k → some k ≠ r) : WRow w' B v L :=
  World.ownsRow.kept h hg (by
    cases e : v.ownBlock with
    | none => exact .inl rfl
    | some k => exact .inr (hne k e))
theorem WRow.shape (h : WRow w B v L) : ∃ A c, v = .slice A L.length c := by
  rcases h.2 with ⟨h1, h0⟩ | ⟨g, cap, cur, hv, _⟩
  · exact ⟨none, 0, by rw [h1, h0]⟩
  · exact ⟨_, cap, hv⟩
theorem WRow.form (h : WRow w B v L) (hn : L.length = n) (hx : 0 < n) : ∃ g c, v = .slice (some ⟨g, 0, none⟩) n c ∧ B ≤ g ∧ g < w.heap.size := by
  subst hn
  rcases h.2 with ⟨_, h0⟩ | ⟨g, cap, cur, hv, hg, hh, _⟩
  · omega
  · exact ⟨g, cap, hv, hg, (Array.getElem?_eq_some_iff.1 hh).1⟩
theorem WRow.blk (h : WRow w B v L) : ∀ k, v.ownBlock = some k → B ≤ k ∧ k < w.heap.size := World.ownsRow.lt h
theorem WRow.len {g c : Nat} (h : WRow w B (.slice (some ⟨g, 0, none⟩) n c) L) : n = L.length := by
  rcases h.2 with ⟨h0, _⟩ | ⟨g', cap, cur, hv, _⟩
  · simp at h0
  · simp at hv; exact hv.2.1
theorem WRow.cell {g c : Nat} (h : WRow w B (.slice (some ⟨g, 0, none⟩) n c) L) {j : Nat} (hj : j < L.length) :
    w.cell? ⟨g, j * 3, none⟩ = some (.int .i64 (wg L j).1) ∧ w.cell? ⟨g, j * 3 + 1, none⟩ = some (.int .i64 (wg L j).2.1) ∧ w.cell? ⟨g, j * 3 + 2, none⟩ = some (.string (wg L j).2.2) := by
  have hn := h.len
  subst hn
  have := wyL_get L j hj
  exact ⟨by rw [World.ownsRow.cellAt h (j * 3) (by omega)]; exact this.1, by rw [World.ownsRow.cellAt h (j * 3 + 1) (by omega)]; exact this.2.1, by rw [World.ownsRow.cellAt h (j * 3 + 2) (by omega)]; exact this.2.2⟩
theorem WRow.free {g c : Nat} (h : WRow w B (.slice (some ⟨g, 0, none⟩) n c) L) (j : Nat) : w.frozen? ⟨g, j, none⟩ = false := by
  have hn := h.len
  subst hn
  exact World.ownsRow.frozenAt h j
theorem WRow.set0 {g c : Nat} (h : WRow w B (.slice (some ⟨g, 0, none⟩) n c) L) {j : Nat} (hj : j < L.length) (u : Int) :
    WRow (w.setCell ⟨g, j * 3, none⟩ (.int .i64 u)) B (.slice (some ⟨g, 0, none⟩) n c) (L.set j (u, (wg L j).2.1, (wg L j).2.2)) ∧ w.grownBy (w.setCell ⟨g, j * 3, none⟩ (.int .i64 u)) (some g) := by
  have hn := h.len
  subst hn
  have := World.ownsRow.stored h (j * 3) (.int .i64 u)
  rw [wyL_set0 L j u hj] at this
  exact ⟨by unfold WRow; rw [List.length_set]; exact this.1, this.2⟩
theorem WRow.set1 {g c : Nat} (h : WRow w B (.slice (some ⟨g, 0, none⟩) n c) L) {j : Nat} (hj : j < L.length) (u : Int) :
    WRow (w.setCell ⟨g, j * 3 + 1, none⟩ (.int .i64 u)) B (.slice (some ⟨g, 0, none⟩) n c) (L.set j ((wg L j).1, u, (wg L j).2.2)) ∧ w.grownBy (w.setCell ⟨g, j * 3 + 1, none⟩ (.int .i64 u)) (some g) := by
  have hn := h.len
  subst hn
  have := World.ownsRow.stored h (j * 3 + 1) (.int .i64 u)
  rw [wyL_set1 L j u hj] at this
  exact ⟨by unfold WRow; rw [List.length_set]; exact this.1, this.2⟩
theorem WRow.set2 {g c : Nat} (h : WRow w B (.slice (some ⟨g, 0, none⟩) n c) L) {j : Nat} (hj : j < L.length) (u : ByteArray) :
    WRow (w.setCell ⟨g, j * 3 + 2, none⟩ (.string u)) B (.slice (some ⟨g, 0, none⟩) n c) (L.set j ((wg L j).1, (wg L j).2.1, u)) ∧ w.grownBy (w.setCell ⟨g, j * 3 + 2, none⟩ (.string u)) (some g) := by
  have hn := h.len
  subst hn
  have := World.ownsRow.stored h (j * 3 + 2) (.string u)
  rw [wyL_set2 L j u hj] at this
  exact ⟨by unfold WRow; rw [List.length_set]; exact this.1, this.2⟩
theorem WRow.reads (h : WRow w B v L) (hs : ∀ t ∈ L, t.2.2.size ≤ maxLen) : RWays w v L.length L := by
  refine ⟨h.shape, fun A k c e => ?_, fun j hj => ?_, fun h0 => ?_⟩
  · rcases h.2 with ⟨h1, _⟩ | ⟨g, cap, cur, h1, _, _, h2, h3, _⟩
    · rw [h1] at e
      injection e with e1 e2 e3
      subst e2 e3
      exact ⟨Nat.le_refl _, by simp [maxLen]⟩
    · rw [h1] at e
      injection e with e1 e2 e3
      subst e2 e3
      exact ⟨h2, h3⟩
  · refine hs _ ?_
    unfold wg
    rw [List.getD_eq_getElem?_getD, List.getElem?_eq_getElem hj]
    exact List.getElem_mem hj
  · obtain ⟨g, c, hv, _, hg⟩ := h.form rfl h0
    subst hv
    exact ⟨g, 0, c, rfl, hg, fun j hj => by rw [Nat.zero_add]; exact h.cell hj⟩
end
/-- append of one way to a slice of the call's own -/
theorem wpList_pushW {ops : Array Oper} {rest : List Oper} {o : Oper} {a : Act} {Q : Exit → Act → World → Prop} {w : World} (p q : Int) (z : ByteArray) (s x : Operand) (hgd : o.guard = none)
    (ho : o.op = .call { callee := .builtin .append, args := #[s, x], argTypes := #[24, 24] })
    (B : Nat) (v : Value) (L : List Wy) (hs : a.eval s = v) (hown : WRow w B v L) (gb : Nat) (hx : a.eval x = .slice (some ⟨gb, 0, none⟩) 1 1)
    (hc0 : w.cell? ⟨gb, 0, none⟩ = some (.int .i64 p)) (hc1 : w.cell? ⟨gb, 1, none⟩ = some (.int .i64 q)) (hc2 : w.cell? ⟨gb, 2, none⟩ = some (.string z))
    (hlen : L.length ≤ 1048576) (hB : B ≤ w.heap.size)
    (h : ∀ v' w', WRow w' B v' (L ++ [(p, q, z)]) → w.grownBy w' v.ownBlock → (v'.ownBlock = v.ownBlock ∨ ∃ g, v'.ownBlock = some g ∧ w.heap.size ≤ g) → wpList Try.prog ops Q rest (a.put o.dst v') w') :
    wpList Try.prog ops Q (o :: rest) a w := by
  obtain ⟨i0, hi, hz0, hz1, hz2⟩ := info_parts wayInfo
  refine wpList_append_own_at _ hgd s x 24 ho B 56 i0 _ 3 32 Try.underlying24 hi hz0 hz1 hz2 rfl (by decide) v L.length (wyL L) hs hown
    ⟨gb, 0, none⟩ 1 1 [.int .i64 p, .int .i64 q, .string z] hx rfl ?_ ?_ ?_ ?_ ?_ ?_
  · intro j y hj
    match j, hj with
    | 0, hj => simp at hj; subst hj; simpa [Addr.add] using hc0
    | 1, hj => simp at hj; subst hj; simpa [Addr.add] using hc1
    | 2, hj => simp at hj; subst hj; simpa [Addr.add] using hc2
  · intro y hy
    simp at hy
    rcases hy with rfl | rfl | rfl <;> rfl
  · unfold maxLen; omega
  · omega
  · omega
  · intro v' w' h1 h2 _ h4
    refine h v' w' ?_ h2 ?_
    · unfold WRow
      rw [List.length_append, wyL_app]
      exact h1
    · rcases h4 with h4 | h4
      · exact .inl h4
      · exact .inr ⟨_, h4, by simp⟩
/-- a call that hands back a slice of ways of its own and a bool -/
def WsRet (w : World) (ok : Bool) (L : List Wy) (e : Ending) (w' : World) : Prop :=
  ∃ v, e = .returned (.tuple #[v, .bool ok]) ∧ WRow w' w.heap.size v L ∧ Below w.heap.size w w'
end Go.Proofs.Ytnlmjeakdjmohaa

/- The laws' eqWayS, markWayS, heldWayS. -/
namespace Go.Proofs.Ytnlmjeakdjmohaa
open Go.RowKit
set_option linter.unusedVariables false
/-- the marks of a way -/
def wmk (m k : Nat) : Wy := (((m + k * 3 : Nat) : Int), ((m + k * 3 + 1 : Nat) : Int), mt (m + k * 3 + 2))
def wmks (m n : Nat) : List Wy := (List.range n).map (wmk m)
theorem wmks_length (m n : Nat) : (wmks m n).length = n := by simp [wmks]
theorem wmks_get (m : Nat) {n j : Nat} (h : j < n) : wg (wmks m n) j = wmk m j := by simp [wg, wmks, h]
/-- the first k marked -/
def wmP (m : Nat) (L : List Wy) (k : Nat) : List Wy := wmks m k ++ L.drop k
theorem wmP_zero (m : Nat) (L : List Wy) : wmP m L 0 = L := by simp [wmP, wmks]
theorem wmP_length (m : Nat) (L : List Wy) {k : Nat} (h : k ≤ L.length) : (wmP m L k).length = L.length := by simp [wmP, wmks]; omega
theorem wmP_full (m : Nat) (L : List Wy) : wmP m L L.length = wmks m L.length := by simp [wmP]
theorem wmP_set (m : Nat) (L : List Wy) {k : Nat} (h : k < L.length) : (wmP m L k).set k (wmk m k) = wmP m L (k + 1) := by
  unfold wmP
  rw [List.set_append, wmks_length, if_neg (by omega), Nat.sub_self, List.drop_eq_getElem_cons h, List.set_cons_zero]
  unfold wmks
  rw [List.range_succ, List.map_append, List.append_assoc]
  rfl
/-- the three stores -/
theorem wmP_steps (m : Nat) (L : List Wy) {k : Nat} (h : k < L.length) (A : Wy) : ((((wmP m L k).set k (((m + k * 3 : Nat) : Int), A.2.1, A.2.2)).set k (((m + k * 3 : Nat) : Int), ((m + k * 3 + 1 : Nat) : Int), A.2.2)).set k (((m + k * 3 : Nat) : Int), ((m + k * 3 + 1 : Nat) : Int), mt (m + k * 3 + 2))) = wmP m L (k + 1) := by
  rw [List.set_set, List.set_set]
  exact wmP_set m L h
theorem wg_set {L : List Wy} {k : Nat} (h : k < L.length) (t : Wy) : wg (L.set k t) k = t := by
  unfold wg
  rw [List.getD_eq_getElem?_getD, List.getElem?_set_self h]
  rfl
structure WQ2 (w : World) (B1 B2 : Nat) (v1 v2 : Value) (L : List Wy) (X : World) : Prop where
  a : WRow X B1 v1 L
  b : WRow X B2 v2 L
  below : Below w.heap.size w X
theorem WQ2.kept {w X X' : World} {B1 B2 : Nat} {v1 v2 : Value} {L : List Wy} (h : WQ2 w B1 B2 v1 v2 L X) (hb : Below X.heap.size X X') : WQ2 w B1 B2 v1 v2 L X' := ⟨h.a.below hb, h.b.below hb, h.below.trans (hb.mono h.below.size)⟩
theorem weMk {w X : World} {B1 B2 g1 g2 c1 c2 n k : Nat} {L : List Wy} {x y : Int} {s : ByteArray} (h : WQ2 w B1 B2 (.slice (some ⟨g1, 0, none⟩) n c1) (.slice (some ⟨g2, 0, none⟩) n c2) L X) (hk : k < L.length) (hw : wg L k = (x, y, s)) :
    X.cell? ⟨g1, k * 3, none⟩ = some (.int .i64 x) ∧ X.cell? ⟨g1, k * 3 + 1, none⟩ = some (.int .i64 y) ∧ X.cell? ⟨g1, k * 3 + 2, none⟩ = some (.string s) ∧ X.cell? ⟨g2, k * 3, none⟩ = some (.int .i64 x) ∧ X.cell? ⟨g2, k * 3 + 1, none⟩ = some (.int .i64 y) ∧ X.cell? ⟨g2, k * 3 + 2, none⟩ = some (.string s) ∧ WQ2 w B1 B2 (.slice (some ⟨g1, 0, none⟩) n c1) (.slice (some ⟨g2, 0, none⟩) n c2) L X := by
  have h1 := h.a.cell hk
  have h2 := h.b.cell hk
  rw [hw] at h1 h2
  exact ⟨h1.1, h1.2.1, h1.2.2, h2.1, h2.2.1, h2.2.2, h⟩
theorem weOf {w X : World} {B1 B2 g1 g2 c1 c2 n k : Nat} {L : List Wy} {x y : Int} {s : ByteArray} (h : X.cell? ⟨g1, k * 3, none⟩ = some (.int .i64 x) ∧ X.cell? ⟨g1, k * 3 + 1, none⟩ = some (.int .i64 y) ∧ X.cell? ⟨g1, k * 3 + 2, none⟩ = some (.string s) ∧ X.cell? ⟨g2, k * 3, none⟩ = some (.int .i64 x) ∧ X.cell? ⟨g2, k * 3 + 1, none⟩ = some (.int .i64 y) ∧ X.cell? ⟨g2, k * 3 + 2, none⟩ = some (.string s) ∧ WQ2 w B1 B2 (.slice (some ⟨g1, 0, none⟩) n c1) (.slice (some ⟨g2, 0, none⟩) n c2) L X) : WQ2 w B1 B2 (.slice (some ⟨g1, 0, none⟩) n c1) (.slice (some ⟨g2, 0, none⟩) n c2) L X := h.2.2.2.2.2.2
theorem weKeep {w X X' : World} {B1 B2 g1 g2 c1 c2 n k : Nat} {L : List Wy} {x y : Int} {s : ByteArray} (h : X.cell? ⟨g1, k * 3, none⟩ = some (.int .i64 x) ∧ X.cell? ⟨g1, k * 3 + 1, none⟩ = some (.int .i64 y) ∧ X.cell? ⟨g1, k * 3 + 2, none⟩ = some (.string s) ∧ X.cell? ⟨g2, k * 3, none⟩ = some (.int .i64 x) ∧ X.cell? ⟨g2, k * 3 + 1, none⟩ = some (.int .i64 y) ∧ X.cell? ⟨g2, k * 3 + 2, none⟩ = some (.string s) ∧ WQ2 w B1 B2 (.slice (some ⟨g1, 0, none⟩) n c1) (.slice (some ⟨g2, 0, none⟩) n c2) L X) (hk : Hid (k < L.length ∧ wg L k = (x, y, s))) (hb : Below X.heap.size X X') :
    X'.cell? ⟨g1, k * 3, none⟩ = some (.int .i64 x) ∧ X'.cell? ⟨g1, k * 3 + 1, none⟩ = some (.int .i64 y) ∧ X'.cell? ⟨g1, k * 3 + 2, none⟩ = some (.string s) ∧ X'.cell? ⟨g2, k * 3, none⟩ = some (.int .i64 x) ∧ X'.cell? ⟨g2, k * 3 + 1, none⟩ = some (.int .i64 y) ∧ X'.cell? ⟨g2, k * 3 + 2, none⟩ = some (.string s) ∧ WQ2 w B1 B2 (.slice (some ⟨g1, 0, none⟩) n c1) (.slice (some ⟨g2, 0, none⟩) n c2) L X' := weMk ((weOf h).kept hb) hk.out.1 hk.out.2
set_option maxRecDepth 100000 in
set_option maxHeartbeats 1000000 in
theorem eqWays_same (v1 v2 : Value) (L : List Wy) (B1 B2 : Nat) (w : World) (h1 : WRow w B1 v1 L) (h2 : WRow w B2 v2 L) (hl : L.length ≤ 1048576) :
    Calls Try.prog 25 #[v1, v2] w (Ret w (.bool true)) := by
  obtain ⟨n, hn⟩ : ∃ n, L.length = n := ⟨_, rfl⟩
  by_cases h0 : n = 0
  · obtain ⟨A1, c1, rfl⟩ := h1.shape
    obtain ⟨A2, c2, rfl⟩ := h2.shape
    rw [hn]
    subst h0
    clear h1 h2 hn hl
    go_enter Try.func25, Try.ntmps25
    go_wp2
    refine wp_loop_rounds 1 ?_; rw [rounds_succ]
    go_wp2
    go_ret
    exact ⟨rfl, Below.refl _ _⟩
  · obtain ⟨g1, c1, rfl, _, _⟩ := h1.form hn (by omega)
    obtain ⟨g2, c2, rfl, _, _⟩ := h2.form hn (by omega)
    have HE0 : Hid (WQ2 w B1 B2 (.slice (some ⟨g1, 0, none⟩) n c1) (.slice (some ⟨g2, 0, none⟩) n c2) L w) := Lib.hid ⟨h1, h2, Below.refl _ _⟩
    have HR : Hid (∀ (x y : Int) (s : ByteArray) (w : World), Calls Try.prog 77 #[wayV x y s, wayV x y s] w (Ret w (.bool true))) := Lib.hid eqWay_any
    rw [hn] at hl
    have HNL := Lib.hid hn
    clear h1 h2 h0 hn
    go_enter Try.func25, Try.ntmps25
    go_wp2_with fail
    go_loopw [5] (fun i wr => ∃ k : Nat, k ≤ n ∧ i = .int .i64 (k : Int) ∧ WQ2 w B1 B2 (.slice (some ⟨g1, 0, none⟩) n c1) (.slice (some ⟨g2, 0, none⟩) n c2) L wr) (fun i _ => n - (intOf i).toNat)
    case atStart => exact ⟨0, Nat.zero_le _, rfl, HE0.out⟩
    case round =>
      obtain ⟨k, hk, rfl, heq⟩ := hrel
      clear HE0
      by_cases hlt : k < n
      · have i1 : (k : Int) < (n : Int) := by omega
        have i2 : (0 : Int) ≤ (k : Int) := by omega
        obtain ⟨x, y, s, hw⟩ : ∃ x y s, wg L k = (x, y, s) := ⟨_, _, _, rfl⟩
        have HK : Hid (k < L.length ∧ wg L k = (x, y, s)) := Lib.hid ⟨by rw [HNL.out]; exact hlt, hw⟩
        have HE := Lib.hid (weMk (heq.kept (Below.refl _ _).drew) HK.out.1 HK.out.2)
        clear hw heq
        go_wp2_with fail
        go_region_held3 (fun X => X.cell? ⟨g1, k * 3, none⟩ = some (.int .i64 x) ∧ X.cell? ⟨g1, k * 3 + 1, none⟩ = some (.int .i64 y) ∧ X.cell? ⟨g1, k * 3 + 2, none⟩ = some (.string s) ∧ X.cell? ⟨g2, k * 3, none⟩ = some (.int .i64 x) ∧ X.cell? ⟨g2, k * 3 + 1, none⟩ = some (.int .i64 y) ∧ X.cell? ⟨g2, k * 3 + 2, none⟩ = some (.string s) ∧ WQ2 w B1 B2 (.slice (some ⟨g1, 0, none⟩) n c1) (.slice (some ⟨g2, 0, none⟩) n c2) L X) (first | exact HE.out | assumption | exact weKeep (by assumption) HK (by assumption)) (first | (go_at_call 77; refine (HR.out _ _ _ _).mono ?_; rintro e w4 ⟨rfl, hb4⟩; have HE4 := Lib.hid ((weOf (by assumption)).kept hb4)))
        go_wp2_with fail
        go_roundw
        case rel => exact ⟨k + 1, by omega, by go_num, HE4.out⟩
        case measure => simp [intOf]; omega
      · go_wp2_with fail
        go_ret
        exact ⟨rfl, heq.below⟩
set_option maxRecDepth 100000 in
set_option maxHeartbeats 1000000 in
theorem markWays_any (v : Value) (L : List Wy) (B : Nat) (m : Nat) (w : World) (h1 : WRow w B v L) (hl : L.length ≤ 1048576) (hm : 0 < m ∧ m ≤ 1073741824) :
    Calls Try.prog 28 #[v, .int .i64 (m : Nat)] w fun e w' => e = .returned (.int .i64 ((m + L.length * 3 : Nat) : Int)) ∧ WRow w' B v (wmks m L.length) ∧ w.grownBy w' v.ownBlock := by
  obtain ⟨n, hn⟩ : ∃ n, L.length = n := ⟨_, rfl⟩
  by_cases h0 : n = 0
  · obtain ⟨A1, c1, rfl⟩ := h1.shape
    obtain rfl : L = [] := List.eq_nil_of_length_eq_zero (hn.trans h0)
    have H1 := Lib.hid h1
    clear h1 hn
    go_enter Try.func28, Try.ntmps28
    go_wp2
    refine wp_loop_rounds 1 ?_; rw [rounds_succ]
    go_wp2
    go_ret
    exact ⟨ret_int (by simp), H1.out, grown_refl' _ _⟩
  · obtain ⟨g1, c1, rfl, _, _⟩ := h1.form hn (by omega)
    have HS : Hid (∀ k, k < n → ∀ A : Wy, ((((wmP m L k).set k (((m + k * 3 : Nat) : Int), A.2.1, A.2.2)).set k (((m + k * 3 : Nat) : Int), ((m + k * 3 + 1 : Nat) : Int), A.2.2)).set k (((m + k * 3 : Nat) : Int), ((m + k * 3 + 1 : Nat) : Int), mt (m + k * 3 + 2))) = wmP m L (k + 1)) := Lib.hid fun k hk A => wmP_steps m L (by omega) A
    have HLN : Hid (∀ k, k ≤ n → (wmP m L k).length = n) := Lib.hid fun k hk => by rw [wmP_length m L (by omega), hn]
    have HF : Hid (wmP m L n = wmks m n) := Lib.hid (by rw [← hn]; exact wmP_full m L)
    have H0 : Hid (WRow w B (.slice (some ⟨g1, 0, none⟩) n c1) (wmP m L 0)) := Lib.hid (by rw [wmP_zero]; exact h1)
    rw [hn] at hl ⊢
    clear h1 hn
    go_enter Try.func28, Try.ntmps28
    go_wp2
    go_loopw [1, 5] (fun q i wr => ∃ k : Nat, k ≤ n ∧ i = .int .i64 k ∧ q = .int .i64 ((m + k * 3 : Nat) : Int) ∧ WRow wr B (.slice (some ⟨g1, 0, none⟩) n c1) (wmP m L k) ∧ w.grownBy wr (some g1)) (fun _ i _ => n - (intOf i).toNat)
    case atStart => exact ⟨0, Nat.zero_le _, rfl, by go_num, H0.out, grown_refl' _ _⟩
    case round =>
      obtain ⟨k, hk, rfl, rfl, hrow, hg⟩ := hrel
      clear H0
      by_cases hlt : k < n
      · have HSK := Lib.hid (HS.out k hlt (wg (wmP m L k) k))
        have hlen := HLN.out k hk
        obtain ⟨q, hq⟩ : ∃ q, q = m + k * 3 := ⟨_, rfl⟩
        rw [← hq] at HSK ⊢
        have HM : Hid (∀ w, Calls Try.prog 79 #[.int .i64 ((q : Int) + 1 + 1)] w (Ret w (.string (mt (q + 2))))) := Lib.hid fun w => by
          have := markText_any (q + 2) w (by omega) (by omega)
          rwa [show ((q + 2 : Nat) : Int) = (q : Int) + 1 + 1 by omega] at this
        have hqb : 0 < q ∧ q ≤ 2147483648 := by omega
        have HQ := Lib.hid hq
        have e0 := (hrow.cell (j := k) (by omega)).1
        have e1 := (hrow.cell (j := k) (by omega)).2.1
        have f0 := hrow.free (k * 3)
        have f1 := hrow.free (k * 3 + 1)
        have f2 := hrow.free (k * 3 + 2)
        have s0 := hrow.set0 (j := k) (by omega) (q : Int)
        have s1 := s0.1.set1 (j := k) (by rw [List.length_set]; omega) ((q + 1 : Nat) : Int)
        rw [wg_set (by omega)] at s1
        have hgg := grown_trans' (grown_trans' hg s0.2) s1.2
        have hln2 : ((((wmP m L k).set k ((q : Int), (wg (wmP m L k) k).2.1, (wg (wmP m L k) k).2.2))).set k ((q : Int), ((q + 1 : Nat) : Int), (wg (wmP m L k) k).2.2)).length = n := by rw [List.length_set, List.length_set]; exact hlen
        have HLN2 := Lib.hid hln2
        have HWG : Hid (wg ((((wmP m L k).set k ((q : Int), (wg (wmP m L k) k).2.1, (wg (wmP m L k) k).2.2))).set k ((q : Int), ((q + 1 : Nat) : Int), (wg (wmP m L k) k).2.2)) k = ((q : Int), ((q + 1 : Nat) : Int), (wg (wmP m L k) k).2.2)) := Lib.hid (wg_set (by rw [List.length_set]; omega) _)
        generalize mt (q + 2) = x at *
        generalize (((wmP m L k).set k ((q : Int), (wg (wmP m L k) k).2.1, (wg (wmP m L k) k).2.2))).set k ((q : Int), ((q + 1 : Nat) : Int), (wg (wmP m L k) k).2.2) = L2 at *
        have HR1 := Lib.hid s1.1
        have HG := Lib.hid hgg
        rw [show ((q + 1 : Nat) : Int) = (q : Int) + 1 by omega] at HR1 HG HWG HSK
        clear hq s0 s1 hgg hln2 hlen hrow hg
        go_wp2_with (go_at_call 79; refine (HM.out _).mono ?_; rintro e w3 ⟨rfl, hb3⟩; have hrow3 := HR1.out.below hb3; have e3 := (hrow3.cell (j := k) (by rw [HLN2.out]; exact hlt)).2.2; have e4 := hrow3.free (k * 3 + 2); have hst := hrow3.set2 (j := k) (by rw [HLN2.out]; exact hlt) x; have HST := Lib.hid hst; have HG3 := Lib.hid (grown_trans' (grown_trans' HG.out (below_grown hb3 _)) hst.2); clear hrow3 hst hb3)
        go_roundw
        case rel => exact ⟨k + 1, by omega, by go_num, by rw [show m + (k + 1) * 3 = q + 3 by rw [HQ.out]; omega]; go_num, by
          have := HST.out.1
          rw [HWG.out, HSK.out] at this
          exact this, HG3.out⟩
        case measure => simp [intOf]; omega
      · go_wp2
        obtain rfl : k = n := by omega
        go_ret
        exact ⟨rfl, by rw [← HF.out]; exact hrow, hg⟩
theorem whKeep {w X X' : World} {g1 k : Nat} {x : ByteArray} (h : X.cell? ⟨g1, k * 3 + 2, none⟩ = some (.string x) ∧ Below w.heap.size w X) (hg : g1 < w.heap.size) (hb : Below X.heap.size X X') :
    X'.cell? ⟨g1, k * 3 + 2, none⟩ = some (.string x) ∧ Below w.heap.size w X' :=
  ⟨(hb.cell (p := ⟨g1, k * 3 + 2, none⟩) (Nat.lt_of_lt_of_le hg h.2.size)).trans h.1, h.2.trans (hb.mono h.2.size)⟩
theorem whB {w X : World} {g1 k : Nat} {x : ByteArray} (h : X.cell? ⟨g1, k * 3 + 2, none⟩ = some (.string x) ∧ Below w.heap.size w X) : Below w.heap.size w X := h.2
set_option maxRecDepth 100000 in
set_option maxHeartbeats 1000000 in
theorem heldWays_any (v : Value) (n : Nat) (B : Nat) (m : Nat) (w : World) (h1 : WRow w B v (wmks m n)) (hl : n ≤ 1048576) (hm : 0 < m ∧ m ≤ 1073741824) :
    Calls Try.prog 29 #[v, .int .i64 (m : Nat)] w (Ret w (.int .i64 ((m + n * 3 : Nat) : Int))) := by
  by_cases h0 : n = 0
  · subst h0
    obtain ⟨A1, c1, rfl⟩ := h1.shape
    rw [wmks_length] at *
    clear h1
    go_enter Try.func29, Try.ntmps29
    go_wp2
    refine wp_loop_rounds 1 ?_; rw [rounds_succ]
    go_wp2
    go_ret
    exact ⟨ret_int (by simp), Below.refl _ _⟩
  · obtain ⟨g1, c1, rfl, _, hgl⟩ := h1.form (wmks_length m n) (by omega)
    have H1 := Lib.hid h1
    clear h1 h0
    go_enter Try.func29, Try.ntmps29
    go_wp2
    go_loopw [1, 5] (fun q i wr => ∃ k : Nat, k ≤ n ∧ i = .int .i64 k ∧ q = .int .i64 ((m + k * 3 : Nat) : Int) ∧ Below w.heap.size w wr) (fun _ i _ => n - (intOf i).toNat)
    case atStart => exact ⟨0, Nat.zero_le _, rfl, by go_num, Below.refl _ _⟩
    case round =>
      obtain ⟨k, hk, rfl, rfl, hb⟩ := hrel
      by_cases hlt : k < n
      · have hc := (H1.out.below hb).cell (j := k) (by rw [wmks_length]; omega)
        rw [wmks_get m hlt] at hc
        obtain ⟨q, hq⟩ : ∃ q, q = m + k * 3 := ⟨_, rfl⟩
        unfold wmk at hc
        rw [← hq] at hc ⊢
        rw [show ((q + 1 : Nat) : Int) = (q : Int) + 1 by omega] at hc
        have HM : Hid (∀ w, Calls Try.prog 79 #[.int .i64 ((q : Int) + 1 + 1)] w (Ret w (.string (mt (q + 2))))) := Lib.hid fun w => by
          have := markText_any (q + 2) w (by omega) (by omega)
          rwa [show ((q + 2 : Nat) : Int) = (q : Int) + 1 + 1 by omega] at this
        have hqb : 0 < q ∧ q ≤ 2147483648 := by omega
        have HQ := Lib.hid hq
        clear hq
        generalize mt (q + 2) = x at *
        have i1 : (k : Int) < (n : Int) := by omega
        have e0 := hc.1
        have e1 := hc.2.1
        have HS0 : Hid (wr.drew.cell? ⟨g1, k * 3 + 2, none⟩ = some (.string x) ∧ Below w.heap.size w wr.drew) := Lib.hid ⟨hc.2.2, below_drewN hb 1⟩
        clear hc
        go_wp2
        go_region_held3 (fun W => W.cell? ⟨g1, k * 3 + 2, none⟩ = some (.string x) ∧ Below w.heap.size w W) (first | exact HS0.out | assumption | exact whKeep (by assumption) hgl (by assumption)) (first | (go_at_call 79; refine (HM.out _).mono ?_; rintro e w' ⟨rfl, hb'⟩))
        go_wp2
        go_roundw
        case rel => exact ⟨k + 1, by omega, by go_num, by rw [show m + (k + 1) * 3 = q + 3 by rw [HQ.out]; omega]; go_num, whB (g1 := g1) (k := k) (x := x) (by assumption)⟩
        case measure => simp [intOf]; omega
      · go_wp2
        obtain rfl : k = n := by omega
        go_ret
        exact ⟨rfl, hb⟩
end Go.Proofs.Ytnlmjeakdjmohaa
