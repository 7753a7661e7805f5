/- Pack 20 of what FnExactOrderedOfRank needs: VOwn, Rot. -/
import Derived.Test.YtmfcknlpbliehaaKFnExactOrderedOfRank19
import Derived.Deep.RegionLaw
import Derived.Deep.AppendLies
/- Words for memory: a slice of slices that the call owns. -/
namespace Go.Proofs.Ytmfcknlpbliehaa
open Go.RowKit
set_option linter.unusedVariables false
theorem vecInfo : (Try.prog.info? 22).map (fun i => (i.zero, i.size, i.bytes)) = some (some (.slice none 0 0), 1, 24) := by kernel_rfl
/-- the slice value v owns the values xs (slices of ints), in a block from B on -/
def VRow (w : World) (B : Nat) (v : Value) (xs : List Value) : Prop := w.ownsRow B 22 1 v xs.length xs
section
variable {w w' : World} {B : Nat} {v : Value} {xs : List Value}
theorem VRow.nil (w : World) (B : Nat) : VRow w B (.slice none 0 0) [] := World.ownsRow_nil _ _ _ _
theorem VRow.mono (h : VRow w B v xs) {B' : Nat} (hb : B' ≤ B) : VRow w B' v xs := by
  refine ⟨h.1, ?_⟩
  rcases h.2 with h2 | ⟨g, cap, cur, hv, hg, r⟩
  · exact .inl h2
  · exact .inr ⟨g, cap, cur, hv, Nat.le_trans hb hg, r⟩
theorem VRow.alloc (h : VRow w B v xs) (o : Obj) : VRow (w.alloc o) B v xs := World.ownsRow.alloc h o
theorem VRow.drew (h : VRow w B v xs) : VRow w.drew B v xs := h
theorem VRow.drewN (h : VRow w B v xs) (n : Nat) : VRow (w.drewN n) B v xs := h
theorem VRow.below (h : VRow w B v xs) (hb : Below w.heap.size w w') : VRow w' B v xs :=
  World.ownsRow.kept (row := none) h ⟨hb.os, hb.tape, hb.output, hb.size, fun k hk _ => hb.block k hk⟩ (by cases v.ownBlock <;> simp)
theorem VRow.shape (h : VRow w B v xs) : ∃ A c, v = .slice A xs.length c := by
  rcases h.2 with ⟨h1, h0⟩ | ⟨g, cap, cur, hv, _⟩
  · exact ⟨none, 0, by rw [h1, h0]⟩
  · exact ⟨_, cap, hv⟩
theorem VRow.form {n : Nat} (h : VRow w B v xs) (hn : xs.length = n) (hx : 0 < n) : ∃ g c, v = .slice (some ⟨g, 0, none⟩) n c ∧ B ≤ g ∧ g < w.heap.size ∧ n ≤ c ∧ c ≤ maxLen := by
  subst hn
  rcases h.2 with ⟨_, h0⟩ | ⟨g, cap, cur, hv, hg, hh, hc, hm, _⟩
  · omega
  · exact ⟨g, cap, hv, hg, (Array.getElem?_eq_some_iff.1 hh).1, hc, hm⟩
theorem VRow.len {g c n : Nat} (h : VRow w B (.slice (some ⟨g, 0, none⟩) n c) xs) : n = xs.length := by
  rcases h.2 with ⟨h0, _⟩ | ⟨g', cap, cur, hv, _⟩
  · simp at h0
  · simp at hv; exact hv.2.1
theorem VRow.cell {g c n : Nat} (h : VRow w B (.slice (some ⟨g, 0, none⟩) n c) xs) {j : Nat} (hj : j < xs.length) : w.cell? ⟨g, j, none⟩ = some (xs.getD j (.slice none 0 0)) := by
  have hn := h.len
  subst hn
  rw [World.ownsRow.cellAt h j (by omega)]
  simp [hj]
theorem VRow.free {g c n : Nat} (h : VRow w B (.slice (some ⟨g, 0, none⟩) n c) xs) (j : Nat) : w.frozen? ⟨g, j, none⟩ = false := by
  have hn := h.len
  subst hn
  exact World.ownsRow.frozenAt h j
theorem VRow.set {g c n : Nat} (h : VRow w B (.slice (some ⟨g, 0, none⟩) n c) xs) (j : Nat) (u : Value) :
    VRow (w.setCell ⟨g, j, none⟩ u) B (.slice (some ⟨g, 0, none⟩) n c) (xs.set j u) ∧ w.grownBy (w.setCell ⟨g, j, none⟩ u) (some g) := by
  have hn := h.len
  subst hn
  have := World.ownsRow.stored h j u
  refine ⟨?_, this.2⟩
  have h1 := this.1
  unfold VRow
  rw [List.length_set]
  exact h1
theorem VRow.blk (h : VRow w B v xs) : ∀ k, v.ownBlock = some k → B ≤ k ∧ k < w.heap.size := World.ownsRow.lt h
theorem VRow.apart {r : Option Nat} (h : VRow w B v xs) (hg : w.grownBy w' r) (hne : ∀ k, v.ownBlock = some k → some k ≠ r) : VRow w' B v xs :=
  World.ownsRow.kept h hg (by
    cases e : v.ownBlock with
    | none => exact .inl rfl
    | some k => exact .inr (hne k e))
theorem VRow.same (h : VRow w B v xs) (e : ∀ k, v.ownBlock = some k → w'.heap[k]? = w.heap[k]?) : VRow w' B v xs := by
  refine ⟨h.1, ?_⟩
  rcases h.2 with h2 | ⟨g, cap, cur, hv, hB, hg, r⟩
  · exact .inl h2
  · subst hv
    exact .inr ⟨g, cap, cur, rfl, hB, by rw [e g rfl]; exact hg, r⟩
end
set_option maxRecDepth 100000 in
theorem run_pushV (w : World) (ty : TypeId) (B : Nat) (v u : Value) (xs : List Value) (hown : VRow w B v xs) (gb : Nat) (hc : w.cell? ⟨gb, 0, none⟩ = some u) (hu : u.oneCell' = true) (hlen : xs.length ≤ 2000000) (hB : B ≤ w.heap.size) :
    ∃ v' w', (Builtin.append_ #[40, 40] ty #[v, .slice (some ⟨gb, 0, none⟩) 1 1]).run Try.prog w = .ok v' w' ∧ VRow w' B v' (xs ++ [u]) ∧ w.grownBy w' v.ownBlock ∧ (v'.ownBlock = v.ownBlock ∨ ∃ g, v'.ownBlock = some g ∧ w.heap.size ≤ g) := by
  obtain ⟨i0, hi, hz0, hz1, hz2⟩ := info_parts vecInfo
  obtain ⟨v', w', hr, h2, h3, h4, h5⟩ := run_append_own_at (P := Try.prog) w B 40 ty 22 i0 (.slice none 0 0) 1 24 Try.underlying40 hi hz0 hz1 hz2 rfl (by decide) v xs.length xs hown
    ⟨gb, 0, none⟩ 1 1 [u] rfl (by
      intro j y hj
      match j, hj with
      | 0, hj => simp at hj; subst hj; simpa [Addr.add] using hc) (by intro y hy; simp at hy; subst hy; exact hu) (by unfold maxLen; omega) (by omega) hB
  refine ⟨v', w', hr, ?_, h3, ?_⟩
  · unfold VRow
    simpa using h2
  · rcases h5 with h5 | h5
    · exact .inl h5
    · exact .inr ⟨_, h5, Nat.le_refl _⟩
set_option maxRecDepth 100000 in
/-- append of one slice to a slice of slices of the call's own -/
theorem wpList_pushV {ops : Array Oper} {rest : List Oper} {o : Oper} {a : Act} {Q : Exit → Act → World → Prop} {w : World} (s x : Operand) (hgd : o.guard = none)
    (ho : o.op = .call { callee := .builtin .append, args := #[s, x], argTypes := #[40, 40] })
    (B : Nat) (v : Value) (xs : List Value) (hs : a.eval s = v) (hown : VRow w B v xs) (gb : Nat) (u : Value) (hx : a.eval x = .slice (some ⟨gb, 0, none⟩) 1 1)
    (hc : w.cell? ⟨gb, 0, none⟩ = some u) (hu : u.oneCell' = true) (hlen : xs.length ≤ 2000000) (hB : B ≤ w.heap.size)
    (h : ∀ v' w', VRow w' B v' (xs ++ [u]) → w.grownBy w' v.ownBlock → (v'.ownBlock = v.ownBlock ∨ ∃ g, v'.ownBlock = some g ∧ w.heap.size ≤ g) → wpList Try.prog ops Q rest (a.put o.dst v') w') :
    wpList Try.prog ops Q (o :: rest) a w := by
  refine wpList_plain hgd fun K hK => ?_
  obtain ⟨v', w', hr, h2, h3, h4⟩ := run_pushV w o.type B v u xs hown gb hc hu hlen hB
  unfold Oper.wp execOp
  simp only [ho, resolve, invoke, builtin, Sem.run_bind, Sem.run_pure, Result.andThen_ok, List.map_toArray, List.map_cons, List.map_nil, hs, hx, hr]
  exact hK _ _ (h v' w' h2 h3 h4)
set_option maxRecDepth 100000 in
/-- the same at a step of a region that draws its order -/
theorem step_pushV {ops : Array Oper} {o : Oper} {a : Act} {K : Act → World → Prop} {Q : Exit → Act → World → Prop} {E : Prop} {w : World} (s x : Operand) (hgd : o.guard = none)
    (ho : o.op = .call { callee := .builtin .append, args := #[s, x], argTypes := #[40, 40] })
    (B : Nat) (v : Value) (xs : List Value) (hs : a.eval s = v) (hown : VRow w B v xs) (gb : Nat) (u : Value) (hx : a.eval x = .slice (some ⟨gb, 0, none⟩) 1 1)
    (hc : w.cell? ⟨gb, 0, none⟩ = some u) (hu : u.oneCell' = true) (hlen : xs.length ≤ 2000000) (hB : B ≤ w.heap.size)
    (h : ∀ v' w', VRow w' B v' (xs ++ [u]) → w.grownBy w' v.ownBlock → (v'.ownBlock = v.ownBlock ∨ ∃ g, v'.ownBlock = some g ∧ w.heap.size ≤ g) → K (a.put o.dst v') w') :
    if Region.wanted o (yielded ops a.tmps) = true then Oper.wp Try.prog o a w K Q else E := by
  have hw : Region.wanted o (yielded ops a.tmps) = true := by simp [Region.wanted, hgd]
  rw [if_pos hw]
  obtain ⟨v', w', hr, h2, h3, h4⟩ := run_pushV w o.type B v u xs hown gb hc hu hlen hB
  unfold Oper.wp execOp
  simp only [ho, resolve, invoke, builtin, Sem.run_bind, Sem.run_pure, Result.andThen_ok, List.map_toArray, List.map_cons, List.map_nil, hs, hx, hr]
  exact h v' w' h2 h3 h4
end Go.Proofs.Ytmfcknlpbliehaa

/- l1Own, cyRotate, RotateList, GoodRotations. -/
namespace Go.Proofs.Ytmfcknlpbliehaa
open Go.RowKit
set_option linter.unusedVariables false
theorem IRow.empty (w : World) : IRow (w.alloc (.cells #[] 3)) w.heap.size (.slice (some ⟨w.heap.size, 0, none⟩) 0 0) [] :=
  IRow.of_own (World.ownsRow_lit w #[] 0 (Nat.le_refl _) (by simp [maxLen]) rfl) rfl rfl
theorem grown_left {w w' : World} {o : Obj} {row : Option Nat} (h : (w.alloc o).grownBy w' row) : w.grownBy w' row := grown_alloc_left h
set_option maxRecDepth 100000 in
/-- append of what another slice holds to a slice of the call's own -/
theorem wpList_extend {ops : Array Oper} {rest : List Oper} {o : Oper} {a : Act} {Q : Exit → Act → World → Prop} {w : World} (s x : Operand) (hgd : o.guard = none)
    (ho : o.op = .call { callee := .builtin .append, args := #[s, x], argTypes := #[22, 22] })
    (B : Nat) (v : Value) (xs ys : List Int) (hs : a.eval s = v) (hown : IRow w B v xs) (g p c : Nat) (hx : a.eval x = .slice (some ⟨g, p, none⟩) ys.length c)
    (hcells : ∀ j, j < ys.length → w.cell? ⟨g, p + j, none⟩ = some (.int .i64 (ys.getD j 0))) (hlen : xs.length + ys.length ≤ 1099511627776) (hB : B ≤ w.heap.size)
    (h : ∀ v' w', IRow w' B v' (xs ++ ys) → w.grownBy w' v.ownBlock → wpList Try.prog ops Q rest (a.put o.dst v') w') :
    wpList Try.prog ops Q (o :: rest) a w := by
  obtain ⟨i0, hi, hz0, hz1, hz2⟩ := info_parts intInfo
  refine wpList_append_own_at _ hgd s x 22 ho B 3 i0 (.int .i64 0) 1 8 Try.underlying22 hi hz0 hz1 hz2 rfl (by decide) v xs.length (xs.map (Value.int .i64)) hs hown
    ⟨g, p, none⟩ ys.length c (ys.map (Value.int .i64)) hx (by simp) ?_ ?_ ?_ ?_ hB ?_
  · intro j y hj
    rw [List.getElem?_map] at hj
    rcases Nat.lt_or_ge j ys.length with hlt | hge
    · have e := hcells j hlt
      rw [List.getD_eq_getElem?_getD] at e
      rw [List.getElem?_eq_getElem hlt] at hj e
      injection hj with hj
      subst hj
      have e2 : (⟨g, p, none⟩ : Addr).add j = ⟨g, p + j, none⟩ := by unfold Addr.add; split <;> simp_all
      rw [e2]
      exact e
    · rw [List.getElem?_eq_none hge] at hj
      cases hj
  · intro y hy
    rw [List.mem_map] at hy
    obtain ⟨n, _, rfl⟩ := hy
    rfl
  · unfold maxLen; omega
  · omega
  · intro v' w' h1 h2 _ h4
    refine h v' w' ?_ h2
    unfold IRow
    rw [List.length_append, List.map_append]
    exact h1
set_option maxHeartbeats 800000 in
theorem l1Own_any (g o c : Nat) (ys : List Int) (w : World) (hg : g < w.heap.size) (hcells : ∀ j, j < ys.length → w.cell? ⟨g, o + j, none⟩ = some (.int .i64 (ys.getD j 0))) (hl : ys.length ≤ 1048576) :
    Calls Try.prog 13 #[.slice (some ⟨g, o, none⟩) ys.length c] w (IntsNew w ys) := by
  have HC : Hid (∀ w1, Below w.heap.size w w1 → ∀ j, j < ys.length → w1.cell? ⟨g, o + j, none⟩ = some (.int .i64 (ys.getD j 0))) := Lib.hid fun w1 hb j hj => (hb.cell (p := ⟨g, o + j, none⟩) hg).trans (hcells j hj)
  clear hcells
  go_enter Try.func13, Try.ntmps13
  have hb0 := (Below.refl w.heap.size w).alloc (Nat.le_refl _) (.cells #[] 3)
  go_wp2_with (at_builtin; refine wpList_extend (.tmp 3) (.tmp 4) rfl rfl w.heap.size _ [] ys rfl (IRow.empty w) g o c rfl (HC.out _ hb0) (by simp; omega) (by simp) ?_; intro v' w' hrow' hg')
  go_ret
  exact ⟨_, rfl, hrow', hb0.grown hg' (by simp) (fun q hq => by have hq' : some w.heap.size = some q := hq; injection hq' with e; omega)⟩
set_option maxRecDepth 100000 in
/-- the same at a step of a region that draws its order -/
theorem step_extend {ops : Array Oper} {o : Oper} {a : Act} {K : Act → World → Prop} {Q : Exit → Act → World → Prop} {E : Prop} {w : World} (s x : Operand) (hgd : o.guard = none)
    (ho : o.op = .call { callee := .builtin .append, args := #[s, x], argTypes := #[22, 22] })
    (B : Nat) (v : Value) (xs ys : List Int) (hs : a.eval s = v) (hown : IRow w B v xs) (g p c m : Nat) (hm : ys.length = m) (hx : a.eval x = .slice (some ⟨g, p, none⟩) m c)
    (hcells : ∀ j, j < ys.length → w.cell? ⟨g, p + j, none⟩ = some (.int .i64 (ys.getD j 0))) (hlen : xs.length + ys.length ≤ 1099511627776) (hB : B ≤ w.heap.size)
    (h : ∀ v' w', IRow w' B v' (xs ++ ys) → w.grownBy w' v.ownBlock → K (a.put o.dst v') w') :
    if Region.wanted o (yielded ops a.tmps) = true then Oper.wp Try.prog o a w K Q else E := by
  subst hm
  obtain ⟨i0, hi, hz0, hz1, hz2⟩ := info_parts intInfo
  have hw : Region.wanted o (yielded ops a.tmps) = true := by simp [Region.wanted, hgd]
  rw [if_pos hw]
  obtain ⟨v', w', hr, h2, h3, h4, h5⟩ := run_append_own_at (P := Try.prog) w B 22 o.type 3 i0 (.int .i64 0) 1 8 Try.underlying22 hi hz0 hz1 hz2 rfl (by decide) v xs.length (xs.map (Value.int .i64)) hown
    ⟨g, p, none⟩ ys.length c (ys.map (Value.int .i64)) (by simp) (by
      intro j y hj
      rw [List.getElem?_map] at hj
      rcases Nat.lt_or_ge j ys.length with hlt | hge
      · have e := hcells j hlt
        rw [List.getD_eq_getElem?_getD] at e
        rw [List.getElem?_eq_getElem hlt] at hj e
        injection hj with hj
        subst hj
        have e2 : (⟨g, p, none⟩ : Addr).add j = ⟨g, p + j, none⟩ := by unfold Addr.add; split <;> simp_all
        rw [e2]
        exact e
      · rw [List.getElem?_eq_none hge] at hj
        cases hj) (by
      intro y hy
      rw [List.mem_map] at hy
      obtain ⟨n, _, rfl⟩ := hy
      rfl) (by unfold maxLen; omega) (by omega) hB
  unfold Oper.wp execOp
  simp only [ho, resolve, invoke, builtin, Sem.run_bind, Sem.run_pure, Result.andThen_ok, List.map_toArray, List.map_cons, List.map_nil, hs, hx, hr]
  refine h v' w' ?_ h3
  unfold IRow
  rw [List.length_append, List.map_append]
  exact h2
theorem degB_cells {w : World} {A0 : Option Addr} {cap : Nat} {xs : List Int} (h : RInts w (.slice A0 xs.length cap) xs) (hd : degB xs = true) :
    ∃ g o, A0 = some ⟨g, o, none⟩ ∧ g < w.heap.size ∧ ∀ j, j < xs.length → w.cell? ⟨g, o + j, none⟩ = some (.int .i64 (xs.getD j 0)) := by
  have hn := (degB_of hd).1
  obtain ⟨g, o, cc, hv, hg, hc⟩ := h.cells (by omega)
  exact ⟨g, o, by injection hv, hg, hc⟩
def rotOk (xs : List Int) (k : Int) : Bool := degB xs && inB k 0 (xs.length - 1)
def rotV (xs : List Int) (k : Int) : List Int := if rotOk xs k then rot xs k.toNat else []
theorem rotV_len (xs : List Int) (k : Int) (hl : xs.length ≤ 1048576) : (rotV xs k).length ≤ 1048577 := by
  unfold rotV
  split
  · unfold rot
    rw [List.length_append, List.length_drop, List.length_take]
    omega
  · simp
end Go.Proofs.Ytmfcknlpbliehaa
