/- Pack 2 of what FnExactVotesOfTable needs: VOwn, Lists. -/
import Derived.Test.YtmfcknlpbliehaaDoorKFnExactVotesOfTable1
import Derived.Deep.RegionLaw
import Derived.Deep.QuietTactic
import Derived.BigQuiet
/- Words for memory: a slice of slices that the call owns. -/
namespace Go.Proofs.YtmfcknlpbliehaaDoor
open Go.RowKit
set_option linter.unusedVariables false
theorem vecInfo : (Tryd.prog.info? 33).map (fun i => (i.zero, i.size, i.bytes)) = some (some (.slice none 0 0), 1, 24) := by kernel_rfl
/-- the slice value v owns the values xs (slices of ints), in a block from B on -/
def VRow (w : World) (B : Nat) (v : Value) (xs : List Value) : Prop := w.ownsRow B 33 1 v xs.length xs
section
variable {w w' : World} {B : Nat} {v : Value} {xs : List Value}
theorem VRow.nil (w : World) (B : Nat) : VRow w B (.slice none 0 0) [] := World.ownsRow_nil _ _ _ _
theorem VRow.mono (h : VRow w B v xs) {B' : Nat} (hb : B' ≤ B) : VRow w B' v xs := by
  refine ⟨h.1, ?_⟩
  rcases h.2 with h2 | ⟨g, cap, cur, hv, hg, r⟩
  · exact .inl h2
  · exact .inr ⟨g, cap, cur, hv, Nat.le_trans hb hg, r⟩
theorem VRow.alloc (h : VRow w B v xs) (o : Obj) : VRow (w.alloc o) B v xs := World.ownsRow.alloc h o
theorem VRow.drew (h : VRow w B v xs) : VRow w.drew B v xs := h
theorem VRow.drewN (h : VRow w B v xs) (n : Nat) : VRow (w.drewN n) B v xs := h
theorem VRow.below (h : VRow w B v xs) (hb : Below w.heap.size w w') : VRow w' B v xs :=
  World.ownsRow.kept (row := none) h ⟨hb.os, hb.tape, hb.output, hb.size, fun k hk _ => hb.block k hk⟩ (by cases v.ownBlock <;> simp)
theorem VRow.shape (h : VRow w B v xs) : ∃ A c, v = .slice A xs.length c := by
  rcases h.2 with ⟨h1, h0⟩ | ⟨g, cap, cur, hv, _⟩
  · exact ⟨none, 0, by rw [h1, h0]⟩
  · exact ⟨_, cap, hv⟩
theorem VRow.form {n : Nat} (h : VRow w B v xs) (hn : xs.length = n) (hx : 0 < n) : ∃ g c, v = .slice (some ⟨g, 0, none⟩) n c ∧ B ≤ g ∧ g < w.heap.size ∧ n ≤ c ∧ c ≤ maxLen := by
  subst hn
  rcases h.2 with ⟨_, h0⟩ | ⟨g, cap, cur, hv, hg, hh, hc, hm, _⟩
  · omega
  · exact ⟨g, cap, hv, hg, (Array.getElem?_eq_some_iff.1 hh).1, hc, hm⟩
theorem VRow.len {g c n : Nat} (h : VRow w B (.slice (some ⟨g, 0, none⟩) n c) xs) : n = xs.length := by
  rcases h.2 with ⟨h0, _⟩ | ⟨g', cap, cur, hv, _⟩
  · simp at h0
  · simp at hv; exact hv.2.1
theorem VRow.cell {g c n : Nat} (h : VRow w B (.slice (some ⟨g, 0, none⟩) n c) xs) {j : Nat} (hj : j < xs.length) : w.cell? ⟨g, j, none⟩ = some (xs.getD j (.slice none 0 0)) := by
  have hn := h.len
  subst hn
  rw [World.ownsRow.cellAt h j (by omega)]
  simp [hj]
theorem VRow.free {g c n : Nat} (h : VRow w B (.slice (some ⟨g, 0, none⟩) n c) xs) (j : Nat) : w.frozen? ⟨g, j, none⟩ = false := by
  have hn := h.len
  subst hn
  exact World.ownsRow.frozenAt h j
theorem VRow.set {g c n : Nat} (h : VRow w B (.slice (some ⟨g, 0, none⟩) n c) xs) (j : Nat) (u : Value) :
    VRow (w.setCell ⟨g, j, none⟩ u) B (.slice (some ⟨g, 0, none⟩) n c) (xs.set j u) ∧ w.grownBy (w.setCell ⟨g, j, none⟩ u) (some g) := by
  have hn := h.len
  subst hn
  have := World.ownsRow.stored h j u
  refine ⟨?_, this.2⟩
  have h1 := this.1
  unfold VRow
  rw [List.length_set]
  exact h1
theorem VRow.blk (h : VRow w B v xs) : ∀ k, v.ownBlock = some k → B ≤ k ∧ k < w.heap.size := World.ownsRow.lt h
theorem VRow.apart {r : Option Nat} (h : VRow w B v xs) (hg : w.grownBy w' r) (hne : ∀ k, v.ownBlock = some k → some k ≠ r) : VRow w' B v xs :=
  World.ownsRow.kept h hg (by
    cases e : v.ownBlock with
    | none => exact .inl rfl
    | some k => exact .inr (hne k e))
theorem VRow.same (h : VRow w B v xs) (e : ∀ k, v.ownBlock = some k → w'.heap[k]? = w.heap[k]?) : VRow w' B v xs := by
  refine ⟨h.1, ?_⟩
  rcases h.2 with h2 | ⟨g, cap, cur, hv, hB, hg, r⟩
  · exact .inl h2
  · subst hv
    exact .inr ⟨g, cap, cur, rfl, hB, by rw [e g rfl]; exact hg, r⟩
end
set_option maxRecDepth 100000 in
theorem run_pushV (w : World) (ty : TypeId) (B : Nat) (v u : Value) (xs : List Value) (hown : VRow w B v xs) (gb : Nat) (hc : w.cell? ⟨gb, 0, none⟩ = some u) (hu : u.oneCell' = true) (hlen : xs.length ≤ 2000000) (hB : B ≤ w.heap.size) :
    ∃ v' w', (Builtin.append_ #[25, 25] ty #[v, .slice (some ⟨gb, 0, none⟩) 1 1]).run Tryd.prog w = .ok v' w' ∧ VRow w' B v' (xs ++ [u]) ∧ w.grownBy w' v.ownBlock ∧ (v'.ownBlock = v.ownBlock ∨ ∃ g, v'.ownBlock = some g ∧ w.heap.size ≤ g) := by
  obtain ⟨i0, hi, hz0, hz1, hz2⟩ := info_parts vecInfo
  obtain ⟨v', w', hr, h2, h3, h4, h5⟩ := run_append_own_at (P := Tryd.prog) w B 25 ty 33 i0 (.slice none 0 0) 1 24 Tryd.underlying25 hi hz0 hz1 hz2 rfl (by decide) v xs.length xs hown
    ⟨gb, 0, none⟩ 1 1 [u] rfl (by
      intro j y hj
      match j, hj with
      | 0, hj => simp at hj; subst hj; simpa [Addr.add] using hc) (by intro y hy; simp at hy; subst hy; exact hu) (by unfold maxLen; omega) (by omega) hB
  refine ⟨v', w', hr, ?_, h3, ?_⟩
  · unfold VRow
    simpa using h2
  · rcases h5 with h5 | h5
    · exact .inl h5
    · exact .inr ⟨_, h5, Nat.le_refl _⟩
set_option maxRecDepth 100000 in
/-- append of one slice to a slice of slices of the call's own -/
theorem wpList_pushV {ops : Array Oper} {rest : List Oper} {o : Oper} {a : Act} {Q : Exit → Act → World → Prop} {w : World} (s x : Operand) (hgd : o.guard = none)
    (ho : o.op = .call { callee := .builtin .append, args := #[s, x], argTypes := #[25, 25] })
    (B : Nat) (v : Value) (xs : List Value) (hs : a.eval s = v) (hown : VRow w B v xs) (gb : Nat) (u : Value) (hx : a.eval x = .slice (some ⟨gb, 0, none⟩) 1 1)
    (hc : w.cell? ⟨gb, 0, none⟩ = some u) (hu : u.oneCell' = true) (hlen : xs.length ≤ 2000000) (hB : B ≤ w.heap.size)
    (h : ∀ v' w', VRow w' B v' (xs ++ [u]) → w.grownBy w' v.ownBlock → (v'.ownBlock = v.ownBlock ∨ ∃ g, v'.ownBlock = some g ∧ w.heap.size ≤ g) → wpList Tryd.prog ops Q rest (a.put o.dst v') w') :
    wpList Tryd.prog ops Q (o :: rest) a w := by
  refine wpList_plain hgd fun K hK => ?_
  obtain ⟨v', w', hr, h2, h3, h4⟩ := run_pushV w o.type B v u xs hown gb hc hu hlen hB
  unfold Oper.wp execOp
  simp only [ho, resolve, invoke, builtin, Sem.run_bind, Sem.run_pure, Result.andThen_ok, List.map_toArray, List.map_cons, List.map_nil, hs, hx, hr]
  exact hK _ _ (h v' w' h2 h3 h4)
set_option maxRecDepth 100000 in
/-- the same at a step of a region that draws its order -/
theorem step_pushV {ops : Array Oper} {o : Oper} {a : Act} {K : Act → World → Prop} {Q : Exit → Act → World → Prop} {E : Prop} {w : World} (s x : Operand) (hgd : o.guard = none)
    (ho : o.op = .call { callee := .builtin .append, args := #[s, x], argTypes := #[25, 25] })
    (B : Nat) (v : Value) (xs : List Value) (hs : a.eval s = v) (hown : VRow w B v xs) (gb : Nat) (u : Value) (hx : a.eval x = .slice (some ⟨gb, 0, none⟩) 1 1)
    (hc : w.cell? ⟨gb, 0, none⟩ = some u) (hu : u.oneCell' = true) (hlen : xs.length ≤ 2000000) (hB : B ≤ w.heap.size)
    (h : ∀ v' w', VRow w' B v' (xs ++ [u]) → w.grownBy w' v.ownBlock → (v'.ownBlock = v.ownBlock ∨ ∃ g, v'.ownBlock = some g ∧ w.heap.size ≤ g) → K (a.put o.dst v') w') :
    if Region.wanted o (yielded ops a.tmps) = true then Oper.wp Tryd.prog o a w K Q else E := by
  have hw : Region.wanted o (yielded ops a.tmps) = true := by simp [Region.wanted, hgd]
  rw [if_pos hw]
  obtain ⟨v', w', hr, h2, h3, h4⟩ := run_pushV w o.type B v u xs hown gb hc hu hlen hB
  unfold Oper.wp execOp
  simp only [ho, resolve, invoke, builtin, Sem.run_bind, Sem.run_pure, Result.andThen_ok, List.map_toArray, List.map_cons, List.map_nil, hs, hx, hr]
  exact h v' w' h2 h3 h4
end Go.Proofs.YtmfcknlpbliehaaDoor

/- eqIntS, markIntS, heldIntS: the laws' own helpers on slices of ints. -/
namespace Go.Proofs.YtmfcknlpbliehaaDoor
open Go.RowKit

set_option maxHeartbeats 400000 in
theorem eqInts_same (v1 v2 : Value) (xs : List Int) (B1 B2 : Nat) (w : World) (h1 : IRow w B1 v1 xs) (h2 : IRow w B2 v2 xs) (hl : xs.length ≤ 1099511627776) :
    Calls Tryd.prog 28 #[v1, v2] w fun e w' => e = .returned (.bool true) ∧ ∃ n, w' = w.drewN n := by
  by_cases h0 : xs.length = 0
  · obtain ⟨A1, c1, rfl⟩ := h1.shape
    obtain ⟨A2, c2, rfl⟩ := h2.shape
    rw [h0]
    clear h1 h2
    go_enter Tryd.func28, Tryd.ntmps28
    go_wp2
    refine wp_loop_rounds 1 ?_; rw [rounds_succ]
    go_wp2
    go_ret
    exact ⟨rfl, 0, rfl⟩
  · obtain ⟨g1, c1, rfl, _, _⟩ := h1.form' rfl (by omega)
    obtain ⟨g2, c2, rfl, _, _⟩ := h2.form' rfl (by omega)
    have H1 := Lib.hid h1
    have H2 := Lib.hid h2
    clear h1 h2 h0
    generalize hn : xs.length = n at *
    have HN := Lib.hid hn
    clear hn
    go_enter Tryd.func28, Tryd.ntmps28
    go_wp2
    go_loopw [5] (fun i wr => ∃ k : Nat, k ≤ n ∧ i = .int .i64 k ∧ ∃ m, wr = w.drewN m) (fun i _ => n - (intOf i).toNat)
    case atStart => exact ⟨0, Nat.zero_le _, rfl, 0, rfl⟩
    case round =>
      obtain ⟨k, hk, rfl, m, rfl⟩ := hrel
      by_cases hlt : k < n
      · have e1 := H1.out.cell (j := k) (by rw [HN.out]; omega)
        have e2 := H2.out.cell (j := k) (by rw [HN.out]; omega)
        have i1 : (k : Int) < (n : Int) := by omega
        go_wp2
        go_quiet (fail)
        go_wp2
        go_roundw
        case rel => exact ⟨k + 1, by omega, by go_num, _, rfl⟩
        case measure => simp [intOf]; omega
      · go_wp2
        go_ret
        exact ⟨rfl, m, rfl⟩

/-- the numbers m, m+1, .. -/
def marks (m : Int) (n : Nat) : List Int := (List.range n).map fun j => m + (j : Nat)
theorem marks_length (m : Int) (n : Nat) : (marks m n).length = n := by simp [marks]
theorem marks_get (m : Int) (n k : Nat) (h : k < n) : (marks m n).getD k 0 = m + k := by
  unfold marks; rw [List.getD_eq_getElem?_getD, List.getElem?_map, List.getElem?_range h]; rfl
/-- the first k are marked -/
def Marked (ys : List Int) (m : Int) (n k : Nat) : Prop := ys.length = n ∧ ∀ j, j < k → ys.getD j 0 = m + (j : Nat)
theorem Marked.zero {ys : List Int} {n : Nat} (m : Int) (h : ys.length = n) : Marked ys m n 0 := ⟨h, fun _ h => absurd h (by omega)⟩
theorem Marked.succ {ys : List Int} {m : Int} {n k : Nat} (h : Marked ys m n k) (hk : k < n) : Marked (ys.set k (m + (k : Nat))) m n (k + 1) := by
  refine ⟨by rw [List.length_set]; exact h.1, fun j hj => ?_⟩
  rw [List.getD_eq_getElem?_getD, List.getElem?_set]
  by_cases e : k = j
  · subst e; rw [if_pos rfl, if_pos (by rw [h.1]; exact hk)]; rfl
  · rw [if_neg e, ← List.getD_eq_getElem?_getD]; exact h.2 j (by omega)
theorem Marked.full {ys : List Int} {m : Int} {n k : Nat} (h : Marked ys m n k) (hk : k = n) : ys = marks m n := by
  subst hk
  apply List.ext_getElem
  · rw [h.1, marks_length]
  · intro j h1 h2
    have a := h.2 j (by rw [h.1] at h1; exact h1)
    have b := marks_get m k j (by rw [h.1] at h1; exact h1)
    rw [List.getD_eq_getElem?_getD, List.getElem?_eq_getElem h1] at a
    rw [List.getD_eq_getElem?_getD, List.getElem?_eq_getElem h2] at b
    simp at a b
    rw [a, b]

theorem grown_trans' {a b c : World} {r : Option Nat} (h : a.grownBy b r) (k : b.grownBy c r) : a.grownBy c r :=
  ⟨k.os.trans h.os, k.tape.trans h.tape, k.output.trans h.output, Nat.le_trans h.size k.size, fun i hi hn => (k.block i (Nat.lt_of_lt_of_le hi h.size) hn).trans (h.block i hi hn)⟩
theorem grown_refl' (w : World) (r : Option Nat) : w.grownBy w r := ⟨rfl, rfl, rfl, Nat.le_refl _, fun _ _ _ => rfl⟩

end Go.Proofs.YtmfcknlpbliehaaDoor
