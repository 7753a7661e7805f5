/- Words for memory: a slice of parts (two ints each) that the call owns. -/
import Derived.Test.YtgajknnfmnnfeaaOwn
namespace Go.Proofs.Ytgajknnfmnnfeaa
open Go.RowKit
theorem partInfo : (Try.prog.info? 80).map (fun i => (i.zero, i.size, i.bytes)) = some (some (.agg #[.int .i64 0, .int .i64 0]), 2, 16) := by kernel_rfl
def pcells (ps : List (Nat × Nat)) : List Value := ps.flatMap fun p => [Value.int .i64 (p.1 : Nat), Value.int .i64 (p.2 : Nat)]
theorem pcells_length (ps : List (Nat × Nat)) : (pcells ps).length = ps.length * 2 := by
  induction ps with
  | nil => rfl
  | cons p ps ih => simp [pcells] at ih ⊢; omega
theorem pcells_get : ∀ (ps : List (Nat × Nat)) (k : Nat) (h : k < ps.length), (pcells ps)[k * 2]? = some (.int .i64 ((ps[k]).1 : Nat)) ∧ (pcells ps)[k * 2 + 1]? = some (.int .i64 ((ps[k]).2 : Nat))
  | p :: ps, 0, _ => by simp [pcells]
  | p :: ps, k + 1, h => by
    have ih := pcells_get ps k (by simpa using h)
    have e1 : (k + 1) * 2 = k * 2 + 1 + 1 := by omega
    simp only [pcells, List.flatMap_cons] at ih ⊢
    rw [e1]
    simp only [List.cons_append, List.nil_append, List.getElem?_cons_succ, List.getElem_cons_succ]
    exact ih
def PRow (w : World) (B : Nat) (v : Value) (ps : List (Nat × Nat)) : Prop := w.ownsRow B 80 2 v ps.length (pcells ps)
section
variable {w w' : World} {B : Nat} {v : Value} {ps : List (Nat × Nat)}
theorem PRow.nil (w : World) (B : Nat) : PRow w B (.slice none 0 0) [] := World.ownsRow_nil _ _ _ _
theorem PRow.mono (h : PRow w B v ps) {B' : Nat} (hb : B' ≤ B) : PRow w B' v ps := by
  refine ⟨h.1, ?_⟩
  rcases h.2 with h2 | ⟨g, cap, cur, hv, hg, r⟩
  · exact .inl h2
  · exact .inr ⟨g, cap, cur, hv, Nat.le_trans hb hg, r⟩
theorem PRow.alloc (h : PRow w B v ps) (o : Obj) : PRow (w.alloc o) B v ps := World.ownsRow.alloc h o
theorem PRow.below (h : PRow w B v ps) (hb : Below w.heap.size w w') : PRow w' B v ps :=
  World.ownsRow.kept (row := none) h ⟨hb.os, hb.tape, hb.output, hb.size, fun k hk _ => hb.block k hk⟩ (by cases v.ownBlock <;> simp)
theorem PRow.shape (h : PRow w B v ps) : ∃ A c, v = .slice A ps.length c := by
  rcases h.2 with ⟨h1, h0⟩ | ⟨g, cap, cur, hv, _⟩
  · exact ⟨none, 0, by rw [h1, h0]⟩
  · exact ⟨_, cap, hv⟩
theorem PRow.blk (h : PRow w B v ps) : ∀ k, v.ownBlock = some k → B ≤ k ∧ k < w.heap.size := World.ownsRow.lt h
theorem PRow.cells (h : PRow w B v ps) (hx : 0 < ps.length) : ∃ g c, v = .slice (some ⟨g, 0, none⟩) ps.length c ∧ B ≤ g ∧ g < w.heap.size ∧
    ∀ k (hk : k < ps.length), w.cell? ⟨g, k * 2, none⟩ = some (.int .i64 ((ps[k]).1 : Nat)) ∧ w.cell? ⟨g, k * 2 + 1, none⟩ = some (.int .i64 ((ps[k]).2 : Nat)) := by
  have h' := h
  rcases h.2 with ⟨_, h0⟩ | ⟨g, cap, cur, hv, hg, hh, hc, hm, _⟩
  · omega
  · subst hv
    refine ⟨g, cap, rfl, hg, (Array.getElem?_eq_some_iff.1 hh).1, fun k hk => ?_⟩
    have := pcells_get ps k hk
    have a := World.ownsRow.cellAt h' (k * 2) (by omega)
    have b := World.ownsRow.cellAt h' (k * 2 + 1) (by omega)
    exact ⟨a.trans this.1, b.trans this.2⟩
end
/-- append of one part to a slice of the call's own -/
theorem wpList_pushP {ops : Array Oper} {rest : List Oper} {o : Oper} {a : Act} {Q : Exit → Act → World → Prop} {w : World} (p q : Nat) (s x : Operand) (hgd : o.guard = none)
    (ho : o.op = .call { callee := .builtin .append, args := #[s, x], argTypes := #[76, 76] })
    (B : Nat) (v : Value) (ps : List (Nat × Nat)) (hs : a.eval s = v) (hown : PRow w B v ps) (gb : Nat) (hgb : gb = w.heap.size) (hx : a.eval x = .slice (some ⟨gb, 0, none⟩) 1 1)
    (hlen : ps.length ≤ 1099511627776) (hB : B ≤ w.heap.size)
    (h : ∀ v' w', PRow w' B v' (ps ++ [(p, q)]) → w.grownBy w' v.ownBlock → (v'.ownBlock = v.ownBlock ∨ ∃ g, v'.ownBlock = some g ∧ w.heap.size ≤ g) → wpList Try.prog ops Q rest (a.put o.dst v') w') :
    wpList Try.prog ops Q (o :: rest) a (w.alloc (.cells #[.int .i64 (p : Nat), .int .i64 (q : Nat)] 80)) := by
  subst hgb
  obtain ⟨i0, hi, hz0, hz1, hz2⟩ := info_parts partInfo
  refine wpList_append_own_at _ hgd s x 76 ho B 80 i0 _ 2 16 Try.underlying76 hi hz0 hz1 hz2 rfl (by decide) v ps.length (pcells ps) hs (World.ownsRow.alloc hown _)
    ⟨w.heap.size, 0, none⟩ 1 1 [.int .i64 (p : Nat), .int .i64 (q : Nat)] hx rfl ?_ ?_ ?_ ?_ ?_ ?_
  · intro j y hj
    match j, hj with
    | 0, hj => simp at hj; subst hj; simp [Addr.add]
    | 1, hj => simp at hj; subst hj; simp [Addr.add]
  · intro y hy
    simp at hy
    rcases hy with rfl | rfl <;> rfl
  · unfold maxLen; omega
  · omega
  · simp; omega
  · intro v' w' h1 h2 _ h4
    refine h v' w' ?_ (grown_alloc_left h2) ?_
    · unfold PRow
      have e : pcells (ps ++ [(p, q)]) = pcells ps ++ [.int .i64 (p : Nat), .int .i64 (q : Nat)] := by simp [pcells]
      rw [e, List.length_append]
      exact h1
    · rcases h4 with h4 | h4
      · exact .inl h4
      · exact .inr ⟨_, h4, by simp⟩
end Go.Proofs.Ytgajknnfmnnfeaa
