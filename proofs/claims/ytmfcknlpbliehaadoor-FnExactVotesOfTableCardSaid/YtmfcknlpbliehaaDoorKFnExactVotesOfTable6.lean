/- Pack 6 of what FnExactVotesOfTable needs: Rot, DegI. -/
import Derived.Test.YtmfcknlpbliehaaDoorKFnExactVotesOfTable5
import Derived.Deep.RegionLaw
import Derived.Deep.AppendLies
import Derived.Lib.MinMax
/- l1Own, cyRotate, RotateList, GoodRotations. -/
namespace Go.Proofs.YtmfcknlpbliehaaDoor
open Go.RowKit
set_option linter.unusedVariables false
theorem IRow.empty (w : World) : IRow (w.alloc (.cells #[] 3)) w.heap.size (.slice (some ⟨w.heap.size, 0, none⟩) 0 0) [] :=
  IRow.of_own (World.ownsRow_lit w #[] 0 (Nat.le_refl _) (by simp [maxLen]) rfl) rfl rfl
theorem grown_left {w w' : World} {o : Obj} {row : Option Nat} (h : (w.alloc o).grownBy w' row) : w.grownBy w' row := grown_alloc_left h
set_option maxRecDepth 100000 in
/-- append of what another slice holds to a slice of the call's own -/
theorem wpList_extend {ops : Array Oper} {rest : List Oper} {o : Oper} {a : Act} {Q : Exit → Act → World → Prop} {w : World} (s x : Operand) (hgd : o.guard = none)
    (ho : o.op = .call { callee := .builtin .append, args := #[s, x], argTypes := #[33, 33] })
    (B : Nat) (v : Value) (xs ys : List Int) (hs : a.eval s = v) (hown : IRow w B v xs) (g p c : Nat) (hx : a.eval x = .slice (some ⟨g, p, none⟩) ys.length c)
    (hcells : ∀ j, j < ys.length → w.cell? ⟨g, p + j, none⟩ = some (.int .i64 (ys.getD j 0))) (hlen : xs.length + ys.length ≤ 1099511627776) (hB : B ≤ w.heap.size)
    (h : ∀ v' w', IRow w' B v' (xs ++ ys) → w.grownBy w' v.ownBlock → wpList Tryd.prog ops Q rest (a.put o.dst v') w') :
    wpList Tryd.prog ops Q (o :: rest) a w := by
  obtain ⟨i0, hi, hz0, hz1, hz2⟩ := info_parts intInfo
  refine wpList_append_own_at _ hgd s x 33 ho B 3 i0 (.int .i64 0) 1 8 Tryd.underlying33 hi hz0 hz1 hz2 rfl (by decide) v xs.length (xs.map (Value.int .i64)) hs hown
    ⟨g, p, none⟩ ys.length c (ys.map (Value.int .i64)) hx (by simp) ?_ ?_ ?_ ?_ hB ?_
  · intro j y hj
    rw [List.getElem?_map] at hj
    rcases Nat.lt_or_ge j ys.length with hlt | hge
    · have e := hcells j hlt
      rw [List.getD_eq_getElem?_getD] at e
      rw [List.getElem?_eq_getElem hlt] at hj e
      injection hj with hj
      subst hj
      have e2 : (⟨g, p, none⟩ : Addr).add j = ⟨g, p + j, none⟩ := by unfold Addr.add; split <;> simp_all
      rw [e2]
      exact e
    · rw [List.getElem?_eq_none hge] at hj
      cases hj
  · intro y hy
    rw [List.mem_map] at hy
    obtain ⟨n, _, rfl⟩ := hy
    rfl
  · unfold maxLen; omega
  · omega
  · intro v' w' h1 h2 _ h4
    refine h v' w' ?_ h2
    unfold IRow
    rw [List.length_append, List.map_append]
    exact h1
set_option maxHeartbeats 800000 in
theorem l1Own_any (g o c : Nat) (ys : List Int) (w : World) (hg : g < w.heap.size) (hcells : ∀ j, j < ys.length → w.cell? ⟨g, o + j, none⟩ = some (.int .i64 (ys.getD j 0))) (hl : ys.length ≤ 1048576) :
    Calls Tryd.prog 16 #[.slice (some ⟨g, o, none⟩) ys.length c] w (IntsNew w ys) := by
  have HC : Hid (∀ w1, Below w.heap.size w w1 → ∀ j, j < ys.length → w1.cell? ⟨g, o + j, none⟩ = some (.int .i64 (ys.getD j 0))) := Lib.hid fun w1 hb j hj => (hb.cell (p := ⟨g, o + j, none⟩) hg).trans (hcells j hj)
  clear hcells
  go_enter Tryd.func16, Tryd.ntmps16
  have hb0 := (Below.refl w.heap.size w).alloc (Nat.le_refl _) (.cells #[] 3)
  go_wp2_with (at_builtin; refine wpList_extend (.tmp 3) (.tmp 4) rfl rfl w.heap.size _ [] ys rfl (IRow.empty w) g o c rfl (HC.out _ hb0) (by simp; omega) (by simp) ?_; intro v' w' hrow' hg')
  go_ret
  exact ⟨_, rfl, hrow', hb0.grown hg' (by simp) (fun q hq => by have hq' : some w.heap.size = some q := hq; injection hq' with e; omega)⟩
set_option maxRecDepth 100000 in
/-- the same at a step of a region that draws its order -/
theorem step_extend {ops : Array Oper} {o : Oper} {a : Act} {K : Act → World → Prop} {Q : Exit → Act → World → Prop} {E : Prop} {w : World} (s x : Operand) (hgd : o.guard = none)
    (ho : o.op = .call { callee := .builtin .append, args := #[s, x], argTypes := #[33, 33] })
    (B : Nat) (v : Value) (xs ys : List Int) (hs : a.eval s = v) (hown : IRow w B v xs) (g p c m : Nat) (hm : ys.length = m) (hx : a.eval x = .slice (some ⟨g, p, none⟩) m c)
    (hcells : ∀ j, j < ys.length → w.cell? ⟨g, p + j, none⟩ = some (.int .i64 (ys.getD j 0))) (hlen : xs.length + ys.length ≤ 1099511627776) (hB : B ≤ w.heap.size)
    (h : ∀ v' w', IRow w' B v' (xs ++ ys) → w.grownBy w' v.ownBlock → K (a.put o.dst v') w') :
    if Region.wanted o (yielded ops a.tmps) = true then Oper.wp Tryd.prog o a w K Q else E := by
  subst hm
  obtain ⟨i0, hi, hz0, hz1, hz2⟩ := info_parts intInfo
  have hw : Region.wanted o (yielded ops a.tmps) = true := by simp [Region.wanted, hgd]
  rw [if_pos hw]
  obtain ⟨v', w', hr, h2, h3, h4, h5⟩ := run_append_own_at (P := Tryd.prog) w B 33 o.type 3 i0 (.int .i64 0) 1 8 Tryd.underlying33 hi hz0 hz1 hz2 rfl (by decide) v xs.length (xs.map (Value.int .i64)) hown
    ⟨g, p, none⟩ ys.length c (ys.map (Value.int .i64)) (by simp) (by
      intro j y hj
      rw [List.getElem?_map] at hj
      rcases Nat.lt_or_ge j ys.length with hlt | hge
      · have e := hcells j hlt
        rw [List.getD_eq_getElem?_getD] at e
        rw [List.getElem?_eq_getElem hlt] at hj e
        injection hj with hj
        subst hj
        have e2 : (⟨g, p, none⟩ : Addr).add j = ⟨g, p + j, none⟩ := by unfold Addr.add; split <;> simp_all
        rw [e2]
        exact e
      · rw [List.getElem?_eq_none hge] at hj
        cases hj) (by
      intro y hy
      rw [List.mem_map] at hy
      obtain ⟨n, _, rfl⟩ := hy
      rfl) (by unfold maxLen; omega) (by omega) hB
  unfold Oper.wp execOp
  simp only [ho, resolve, invoke, builtin, Sem.run_bind, Sem.run_pure, Result.andThen_ok, List.map_toArray, List.map_cons, List.map_nil, hs, hx, hr]
  refine h v' w' ?_ h3
  unfold IRow
  rw [List.length_append, List.map_append]
  exact h2
theorem degB_cells {w : World} {A0 : Option Addr} {cap : Nat} {xs : List Int} (h : RInts w (.slice A0 xs.length cap) xs) (hd : degB xs = true) :
    ∃ g o, A0 = some ⟨g, o, none⟩ ∧ g < w.heap.size ∧ ∀ j, j < xs.length → w.cell? ⟨g, o + j, none⟩ = some (.int .i64 (xs.getD j 0)) := by
  have hn := (degB_of hd).1
  obtain ⟨g, o, cc, hv, hg, hc⟩ := h.cells (by omega)
  exact ⟨g, o, by injection hv, hg, hc⟩
def rotOk (xs : List Int) (k : Int) : Bool := degB xs && inB k 0 (xs.length - 1)
def rotV (xs : List Int) (k : Int) : List Int := if rotOk xs k then rot xs k.toNat else []
theorem rotV_len (xs : List Int) (k : Int) (hl : xs.length ≤ 1048576) : (rotV xs k).length ≤ 1048577 := by
  unfold rotV
  split
  · unfold rot
    rw [List.length_append, List.length_drop, List.length_take]
    omega
  · simp
end Go.Proofs.YtmfcknlpbliehaaDoor

/- The program's IsDegrees (with slices.Min and Max), ExcessOf, IsForest, isTree. -/
namespace Go.Proofs.YtmfcknlpbliehaaDoor
open Go.RowKit
set_option linter.unusedVariables false
def mnT (xs : List Int) : Nat → Int
  | 0 => xs.getD 0 0
  | k + 1 => min (mnT xs k) (xs.getD (k + 1) 0)
def mxT (xs : List Int) : Nat → Int
  | 0 => xs.getD 0 0
  | k + 1 => max (mxT xs k) (xs.getD (k + 1) 0)
theorem mnT_iff (xs : List Int) (a : Int) : ∀ k, a ≤ mnT xs k ↔ ∀ j, j ≤ k → a ≤ xs.getD j 0
  | 0 => by
    rw [mnT]
    exact ⟨fun h j hj => by rw [show j = 0 by omega]; exact h, fun h => h 0 (Nat.le_refl _)⟩
  | k + 1 => by
    rw [mnT, Int.le_min, mnT_iff xs a k]
    exact ⟨fun h j hj => by
      by_cases e : j = k + 1
      · rw [e]; exact h.2
      · exact h.1 j (by omega), fun h => ⟨fun j hj => h j (by omega), h _ (Nat.le_refl _)⟩⟩
theorem mxT_iff (xs : List Int) (a : Int) : ∀ k, mxT xs k ≤ a ↔ ∀ j, j ≤ k → xs.getD j 0 ≤ a
  | 0 => by
    rw [mxT]
    exact ⟨fun h j hj => by rw [show j = 0 by omega]; exact h, fun h => h 0 (Nat.le_refl _)⟩
  | k + 1 => by
    rw [mxT, Int.max_le, mxT_iff xs a k]
    exact ⟨fun h j hj => by
      by_cases e : j = k + 1
      · rw [e]; exact h.2
      · exact h.1 j (by omega), fun h => ⟨fun j hj => h j (by omega), h _ (Nat.le_refl _)⟩⟩
theorem degB_iff (xs : List Int) : degB xs = true ↔ (1 ≤ xs.length ∧ xs.length ≤ 16) ∧ ∀ k, k < xs.length → 0 ≤ xs.getD k 0 ∧ xs.getD k 0 ≤ 16 := by
  refine ⟨degB_of, fun ⟨h1, h2⟩ => ?_⟩
  unfold degB allB inBd
  rw [Bool.and_eq_true, List.all_eq_true]
  refine ⟨by simp; omega, fun x hx => ?_⟩
  obtain ⟨i, hi, rfl⟩ := List.mem_iff_getElem.1 hx
  have := h2 i hi
  rw [List.getD_eq_getElem?_getD, List.getElem?_eq_getElem hi] at this
  simpa using this
theorem degB_mm (xs : List Int) (h : 1 ≤ xs.length ∧ xs.length ≤ 16) : degB xs = (decide (0 ≤ mnT xs (xs.length - 1)) && decide (mxT xs (xs.length - 1) ≤ 16)) := by
  rw [Bool.eq_iff_iff, Bool.and_eq_true, decide_eq_true_iff, decide_eq_true_iff, degB_iff, mnT_iff, mxT_iff]
  exact ⟨fun ⟨_, h2⟩ => ⟨fun j hj => (h2 j (by omega)).1, fun j hj => (h2 j (by omega)).2⟩, fun ⟨h1, h2⟩ => ⟨h, fun k hk => ⟨h1 k (by omega), h2 k (by omega)⟩⟩⟩
theorem degB_out (xs : List Int) (h : ¬ (1 ≤ xs.length ∧ xs.length ≤ 16)) : degB xs = false := by
  rw [Bool.eq_false_iff]
  intro e
  exact h (degB_of e).1
def treeB (xs : List Int) : Bool := forV xs && decide (exc xs = 1)
end Go.Proofs.YtmfcknlpbliehaaDoor
