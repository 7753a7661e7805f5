/- Pack 22 of what FnExactAllPairsApart needs: ApS, POwn. -/
import Derived.Test.YtnlmjeakdjmohaaKFnExactAllPairsApart21
import Derived.Deep.RegionHeld3
/- Ways that are only read; the model's ncApart, AreApart. -/
namespace Go.Proofs.Ytnlmjeakdjmohaa
open Go.RowKit
set_option linter.unusedVariables false
theorem inBd_if4 {a lo hi : Int} (h : inBd lo hi a = true) : lo ≤ a ∧ a ≤ hi := by unfold inBd at h; simpa only [Bool.and_eq_true, decide_eq_true_eq] using h
def apC (L : List Wy) (j i : Nat) : Bool := !(mtR (wg L j).1 (wg L j).2.1 (wg L j).2.2 (wg L i).1 (wg L i).2.1 (wg L i).2.2).isSome
def apB (n : Nat) (L : List Wy) : Bool := (List.range n).all fun j => (List.range j).all fun i => apC L j i
theorem apB_no {n : Nat} {L : List Wy} {j i : Nat} (hj : j < n) (hi : i < j) (h : apC L j i = false) : apB n L = false := by
  rw [← Bool.not_eq_true]
  unfold apB
  intro h2
  have h3 := List.all_eq_true.mp (List.all_eq_true.mp h2 j (List.mem_range.mpr hj)) i (List.mem_range.mpr hi)
  rw [h] at h3
  exact absurd h3 (by decide)
theorem apB_yes {n : Nat} {L : List Wy} (h : ∀ j, j < n → ∀ i, i < j → apC L j i = true) : apB n L = true := by
  unfold apB
  rw [List.all_eq_true]
  intro j hj
  rw [List.all_eq_true]
  exact fun i hi => h j (List.mem_range.mp hj) i (List.mem_range.mp hi)
def wgB (L : List Wy) (j : Nat) : Bool := wayB (wg L j).1 (wg L j).2.1 (wg L j).2.2
def arOk (n : Nat) (L : List Wy) : Bool := inBd 1 4 (n : Int) && (List.range n).all (wgB L)
def arV (n : Nat) (L : List Wy) : Bool := arOk n L && apB n L
theorem arOk_no {n : Nat} {L : List Wy} {j : Nat} (hj : j < n) (h : wgB L j = false) : arOk n L = false := by
  unfold arOk
  rw [Bool.and_eq_false_iff]
  refine .inr ?_
  rw [← Bool.not_eq_true, List.all_eq_true]
  intro h2
  have h3 := h2 j (List.mem_range.mpr hj)
  rw [h] at h3
  exact absurd h3 (by decide)
theorem arOk_yes {n : Nat} {L : List Wy} (h0 : inBd 1 4 (n : Int) = true) (h : ∀ k, k < n → wgB L k = true) : arOk n L = true := by
  unfold arOk
  rw [h0, Bool.true_and, List.all_eq_true]
  exact fun k hk => h k (List.mem_range.mp hk)
end Go.Proofs.Ytnlmjeakdjmohaa

/- Words for memory: a slice of places that the call owns, told by its numbers one behind the other. -/
namespace Go.Proofs.Ytnlmjeakdjmohaa
open Go.RowKit
set_option linter.unusedVariables false
theorem plcInfo : (Try.prog.info? 103).map (fun i => (i.zero, i.size, i.bytes)) = some (some (.agg #[.int .i64 0, .int .i64 0]), 2, 16) := by kernel_rfl
def PRow (w : World) (B : Nat) (v : Value) (n : Nat) (xs : List Int) : Prop := w.ownsRow B 103 2 v n (xs.map (Value.int .i64)) ∧ xs.length = n * 2
section
variable {w w' : World} {B n : Nat} {v : Value} {xs : List Int}
theorem PRow.nil (w : World) (B : Nat) : PRow w B (.slice none 0 0) 0 [] := ⟨World.ownsRow_nil _ _ _ _, rfl⟩
theorem PRow.mono (h : PRow w B v n xs) {B' : Nat} (hb : B' ≤ B) : PRow w B' v n xs := by
  refine ⟨⟨h.1.1, ?_⟩, h.2⟩
  rcases h.1.2 with h2 | ⟨g, cap, cur, hv, hg, r⟩
  · exact .inl h2
  · exact .inr ⟨g, cap, cur, hv, Nat.le_trans hb hg, r⟩
theorem PRow.drewN (h : PRow w B v n xs) (k : Nat) : PRow (w.drewN k) B v n xs := h
theorem PRow.below (h : PRow w B v n xs) (hb : Below w.heap.size w w') : PRow w' B v n xs :=
  ⟨World.ownsRow.kept (row := none) h.1 ⟨hb.os, hb.tape, hb.output, hb.size, fun k hk _ => hb.block k hk⟩ (by cases v.ownBlock <;> simp), h.2⟩
theorem PRow.shape (h : PRow w B v n xs) : ∃ A c, v = .slice A n c := by
  rcases h.1.2 with ⟨h1, h0⟩ | ⟨g, cap, cur, hv, _⟩
  · exact ⟨none, 0, by rw [h1, h0]⟩
  · exact ⟨_, cap, hv⟩
theorem PRow.form (h : PRow w B v n xs) (hx : 0 < n) : ∃ g c, v = .slice (some ⟨g, 0, none⟩) n c ∧ B ≤ g ∧ g < w.heap.size := by
  rcases h.1.2 with ⟨_, h0⟩ | ⟨g, cap, cur, hv, hg, hh, _⟩
  · omega
  · exact ⟨g, cap, hv, hg, (Array.getElem?_eq_some_iff.1 hh).1⟩
theorem PRow.blk (h : PRow w B v n xs) : ∀ k, v.ownBlock = some k → B ≤ k ∧ k < w.heap.size := World.ownsRow.lt h.1
theorem PRow.cell {g c : Nat} (h : PRow w B (.slice (some ⟨g, 0, none⟩) n c) n xs) {j : Nat} (hj : j < n * 2) : w.cell? ⟨g, j, none⟩ = some (.int .i64 (xs.getD j 0)) := by
  rw [World.ownsRow.cellAt h.1 j (by omega)]
  have := h.2
  simp [show j < xs.length by omega]
theorem PRow.free {g c : Nat} (h : PRow w B (.slice (some ⟨g, 0, none⟩) n c) n xs) (j : Nat) : w.frozen? ⟨g, j, none⟩ = false := World.ownsRow.frozenAt h.1 j
theorem PRow.set {g c : Nat} (h : PRow w B (.slice (some ⟨g, 0, none⟩) n c) n xs) (j : Nat) (u : Int) :
    PRow (w.setCell ⟨g, j, none⟩ (.int .i64 u)) B (.slice (some ⟨g, 0, none⟩) n c) n (xs.set j u) ∧ w.grownBy (w.setCell ⟨g, j, none⟩ (.int .i64 u)) (some g) := by
  have := World.ownsRow.stored h.1 j (.int .i64 u)
  refine ⟨⟨?_, by rw [List.length_set]; exact h.2⟩, this.2⟩
  have h1 := this.1
  rw [List.map_set]
  exact h1
end
theorem PRow.grown_other {w w' : World} {B B2 n : Nat} {v v2 : Value} {xs : List Int} (h : PRow w B v n xs) (hg : w.grownBy w' v2.ownBlock) (hv : ∀ k, v.ownBlock = some k → k < B2) (hv2 : ∀ k, v2.ownBlock = some k → B2 ≤ k) : PRow w' B v n xs :=
  ⟨World.ownsRow.kept h.1 hg (by
    cases e : v.ownBlock with
    | none => exact .inl rfl
    | some k =>
      right
      intro e2
      have a := hv k e
      have b := hv2 k e2.symm
      omega), h.2⟩
/-- append of one place to a slice of the call's own -/
theorem wpList_pushP {ops : Array Oper} {rest : List Oper} {o : Oper} {a : Act} {Q : Exit → Act → World → Prop} {w : World} (p q : Int) (s x : Operand) (hgd : o.guard = none)
    (ho : o.op = .call { callee := .builtin .append, args := #[s, x], argTypes := #[62, 62] })
    (B : Nat) (v : Value) (n : Nat) (xs : List Int) (hs : a.eval s = v) (hown : PRow w B v n xs) (gb : Nat) (hgb : gb = w.heap.size) (hx : a.eval x = .slice (some ⟨gb, 0, none⟩) 1 1)
    (hlen : n ≤ 1048576) (hB : B ≤ w.heap.size)
    (h : ∀ v' w', PRow w' B v' (n + 1) (xs ++ [p, q]) → w.grownBy w' v.ownBlock → (v'.ownBlock = v.ownBlock ∨ ∃ g, v'.ownBlock = some g ∧ w.heap.size ≤ g) → wpList Try.prog ops Q rest (a.put o.dst v') w') :
    wpList Try.prog ops Q (o :: rest) a (w.alloc (.cells #[.int .i64 p, .int .i64 q] 103)) := by
  subst hgb
  obtain ⟨i0, hi, hz0, hz1, hz2⟩ := info_parts plcInfo
  have hxl := hown.2
  refine wpList_append_own_at _ hgd s x 62 ho B 103 i0 _ 2 16 Try.underlying62 hi hz0 hz1 hz2 rfl (by decide) v n (xs.map (Value.int .i64)) hs (World.ownsRow.alloc hown.1 _)
    ⟨w.heap.size, 0, none⟩ 1 1 [.int .i64 p, .int .i64 q] hx rfl ?_ ?_ ?_ ?_ ?_ ?_
  · intro j y hj
    match j, hj with
    | 0, hj => simp at hj; subst hj; simp [Addr.add]
    | 1, hj => simp at hj; subst hj; simp [Addr.add]
  · intro y hy
    simp at hy
    rcases hy with rfl | rfl <;> rfl
  · unfold maxLen; omega
  · omega
  · simp; omega
  · intro v' w' h1 h2 _ h4
    refine h v' w' ⟨?_, by rw [List.length_append, hxl]; simp; omega⟩ (grown_alloc_left h2) ?_
    · rw [List.map_append]
      exact h1
    · rcases h4 with h4 | h4
      · exact .inl h4
      · exact .inr ⟨_, h4, by simp⟩
end Go.Proofs.Ytnlmjeakdjmohaa
