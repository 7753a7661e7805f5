/- Pack 5 of what FnExactAllPairsApart needs: CqLaw, COwn. -/
import Derived.Test.YtnlmjeakdjmohaaKFnExactAllPairsApart4
import Derived.Deep.RegionHeld3
/- The laws' own words on cells: copies, comparisons. -/
namespace Go.Proofs.Ytnlmjeakdjmohaa
open Go.RowKit
set_option linter.unusedVariables false
set_option maxHeartbeats 800000 in
theorem toCell_any (n d : Int) (w : World) : Calls Try.prog 31 #[.agg #[.int .i64 n, .int .i64 d]] w (Ret w (.agg #[.int .i64 n, .int .i64 d])) := by
  go_enter Try.func31, Try.ntmps31
  go_wp2
  exact bodyPost_ret (v := .agg #[.int .i64 n, .int .i64 d]) (by simp [results, Try.f31, go_sem]) rfl ⟨rfl, (((Below.refl _ _).alloc (Nat.le_refl _) _).alloc (by simp) _).alloc (by simp; omega) _⟩
theorem eqCell_any (x y : Int) (w : World) : Calls Try.prog 78 #[.agg #[.int .i64 x, .int .i64 y], .agg #[.int .i64 x, .int .i64 y]] w (Ret w (.bool true)) := by
  go_enter Try.func78, Try.ntmps78
  go_wp2
  go_ret
  exact ⟨rfl, ((Below.refl _ _).alloc (Nat.le_refl _) _).alloc (by simp) _⟩
end Go.Proofs.Ytnlmjeakdjmohaa

/- Words for memory: a slice of cells that the call owns, told by its numbers one behind the other; eqCellS, markCellS, heldCellS. -/
namespace Go.Proofs.Ytnlmjeakdjmohaa
open Go.RowKit
set_option linter.unusedVariables false
theorem celInfo : (Try.prog.info? 39).map (fun i => (i.zero, i.size, i.bytes)) = some (some (.agg #[.int .i64 0, .int .i64 0]), 2, 16) := by kernel_rfl
def CRow (w : World) (B : Nat) (v : Value) (n : Nat) (xs : List Int) : Prop := w.ownsRow B 39 2 v n (xs.map (Value.int .i64)) ∧ xs.length = n * 2
section
variable {w w' : World} {B n : Nat} {v : Value} {xs : List Int}
theorem CRow.nil (w : World) (B : Nat) : CRow w B (.slice none 0 0) 0 [] := ⟨World.ownsRow_nil _ _ _ _, rfl⟩
theorem CRow.mono (h : CRow w B v n xs) {B' : Nat} (hb : B' ≤ B) : CRow w B' v n xs := by
  refine ⟨⟨h.1.1, ?_⟩, h.2⟩
  rcases h.1.2 with h2 | ⟨g, cap, cur, hv, hg, r⟩
  · exact .inl h2
  · exact .inr ⟨g, cap, cur, hv, Nat.le_trans hb hg, r⟩
theorem CRow.drewN (h : CRow w B v n xs) (k : Nat) : CRow (w.drewN k) B v n xs := h
theorem CRow.below (h : CRow w B v n xs) (hb : Below w.heap.size w w') : CRow w' B v n xs :=
  ⟨World.ownsRow.kept (row := none) h.1 ⟨hb.os, hb.tape, hb.output, hb.size, fun k hk _ => hb.block k hk⟩ (by cases v.ownBlock <;> simp), h.2⟩
theorem CRow.shape (h : CRow w B v n xs) : ∃ A c, v = .slice A n c := by
  rcases h.1.2 with ⟨h1, h0⟩ | ⟨g, cap, cur, hv, _⟩
  · exact ⟨none, 0, by rw [h1, h0]⟩
  · exact ⟨_, cap, hv⟩
theorem CRow.form (h : CRow w B v n xs) (hx : 0 < n) : ∃ g c, v = .slice (some ⟨g, 0, none⟩) n c ∧ B ≤ g ∧ g < w.heap.size := by
  rcases h.1.2 with ⟨_, h0⟩ | ⟨g, cap, cur, hv, hg, hh, _⟩
  · omega
  · exact ⟨g, cap, hv, hg, (Array.getElem?_eq_some_iff.1 hh).1⟩
theorem CRow.blk (h : CRow w B v n xs) : ∀ k, v.ownBlock = some k → B ≤ k ∧ k < w.heap.size := World.ownsRow.lt h.1
theorem CRow.cell {g c : Nat} (h : CRow w B (.slice (some ⟨g, 0, none⟩) n c) n xs) {j : Nat} (hj : j < n * 2) : w.cell? ⟨g, j, none⟩ = some (.int .i64 (xs.getD j 0)) := by
  rw [World.ownsRow.cellAt h.1 j (by omega)]
  have := h.2
  simp [show j < xs.length by omega]
theorem CRow.free {g c : Nat} (h : CRow w B (.slice (some ⟨g, 0, none⟩) n c) n xs) (j : Nat) : w.frozen? ⟨g, j, none⟩ = false := World.ownsRow.frozenAt h.1 j
theorem CRow.set {g c : Nat} (h : CRow w B (.slice (some ⟨g, 0, none⟩) n c) n xs) (j : Nat) (u : Int) :
    CRow (w.setCell ⟨g, j, none⟩ (.int .i64 u)) B (.slice (some ⟨g, 0, none⟩) n c) n (xs.set j u) ∧ w.grownBy (w.setCell ⟨g, j, none⟩ (.int .i64 u)) (some g) := by
  have := World.ownsRow.stored h.1 j (.int .i64 u)
  refine ⟨⟨?_, by rw [List.length_set]; exact h.2⟩, this.2⟩
  have h1 := this.1
  rw [List.map_set]
  exact h1
end
theorem CRow.grown_other {w w' : World} {B B2 n : Nat} {v v2 : Value} {xs : List Int} (h : CRow w B v n xs) (hg : w.grownBy w' v2.ownBlock) (hv : ∀ k, v.ownBlock = some k → k < B2) (hv2 : ∀ k, v2.ownBlock = some k → B2 ≤ k) : CRow w' B v n xs :=
  ⟨World.ownsRow.kept h.1 hg (by
    cases e : v.ownBlock with
    | none => exact .inl rfl
    | some k =>
      right
      intro e2
      have a := hv k e
      have b := hv2 k e2.symm
      omega), h.2⟩
/-- two rows of the same numbers, and what lies below -/
structure CQ2 (w : World) (B1 B2 : Nat) (v1 v2 : Value) (n : Nat) (xs : List Int) (X : World) : Prop where
  a : CRow X B1 v1 n xs
  b : CRow X B2 v2 n xs
  below : Below w.heap.size w X
theorem CQ2.kept {w X X' : World} {B1 B2 n : Nat} {v1 v2 : Value} {xs : List Int} (h : CQ2 w B1 B2 v1 v2 n xs X) (hb : Below X.heap.size X X') : CQ2 w B1 B2 v1 v2 n xs X' := ⟨h.a.below hb, h.b.below hb, h.below.trans (hb.mono h.below.size)⟩
theorem ceMk {w X : World} {B1 B2 n g1 g2 c1 c2 k : Nat} {xs : List Int} {x0 x1 : Int} (h : CQ2 w B1 B2 (.slice (some ⟨g1, 0, none⟩) n c1) (.slice (some ⟨g2, 0, none⟩) n c2) n xs X) (hk : k < n) (h0 : xs.getD (k * 2) 0 = x0) (h1 : xs.getD (k * 2 + 1) 0 = x1) :
    X.cell? ⟨g1, k * 2, none⟩ = some (.int .i64 x0) ∧ X.cell? ⟨g1, k * 2 + 1, none⟩ = some (.int .i64 x1) ∧ X.cell? ⟨g2, k * 2, none⟩ = some (.int .i64 x0) ∧ X.cell? ⟨g2, k * 2 + 1, none⟩ = some (.int .i64 x1) ∧ CQ2 w B1 B2 (.slice (some ⟨g1, 0, none⟩) n c1) (.slice (some ⟨g2, 0, none⟩) n c2) n xs X := by
  subst h0 h1
  exact ⟨h.a.cell (by omega), h.a.cell (by omega), h.b.cell (by omega), h.b.cell (by omega), h⟩
theorem ceKeep {w X X' : World} {B1 B2 n g1 g2 c1 c2 k : Nat} {xs : List Int} {x0 x1 : Int} (h : X.cell? ⟨g1, k * 2, none⟩ = some (.int .i64 x0) ∧ X.cell? ⟨g1, k * 2 + 1, none⟩ = some (.int .i64 x1) ∧ X.cell? ⟨g2, k * 2, none⟩ = some (.int .i64 x0) ∧ X.cell? ⟨g2, k * 2 + 1, none⟩ = some (.int .i64 x1) ∧ CQ2 w B1 B2 (.slice (some ⟨g1, 0, none⟩) n c1) (.slice (some ⟨g2, 0, none⟩) n c2) n xs X)
    (hk : Hid (k < n ∧ xs.getD (k * 2) 0 = x0 ∧ xs.getD (k * 2 + 1) 0 = x1)) (hb : Below X.heap.size X X') :
    X'.cell? ⟨g1, k * 2, none⟩ = some (.int .i64 x0) ∧ X'.cell? ⟨g1, k * 2 + 1, none⟩ = some (.int .i64 x1) ∧ X'.cell? ⟨g2, k * 2, none⟩ = some (.int .i64 x0) ∧ X'.cell? ⟨g2, k * 2 + 1, none⟩ = some (.int .i64 x1) ∧ CQ2 w B1 B2 (.slice (some ⟨g1, 0, none⟩) n c1) (.slice (some ⟨g2, 0, none⟩) n c2) n xs X' :=
  ceMk (h.2.2.2.2.kept hb) hk.out.1 hk.out.2.1 hk.out.2.2
theorem ceOf {w X : World} {B1 B2 n g1 g2 c1 c2 k : Nat} {xs : List Int} {x0 x1 : Int} (h : X.cell? ⟨g1, k * 2, none⟩ = some (.int .i64 x0) ∧ X.cell? ⟨g1, k * 2 + 1, none⟩ = some (.int .i64 x1) ∧ X.cell? ⟨g2, k * 2, none⟩ = some (.int .i64 x0) ∧ X.cell? ⟨g2, k * 2 + 1, none⟩ = some (.int .i64 x1) ∧ CQ2 w B1 B2 (.slice (some ⟨g1, 0, none⟩) n c1) (.slice (some ⟨g2, 0, none⟩) n c2) n xs X) : CQ2 w B1 B2 (.slice (some ⟨g1, 0, none⟩) n c1) (.slice (some ⟨g2, 0, none⟩) n c2) n xs X := h.2.2.2.2
set_option maxRecDepth 100000 in
set_option maxHeartbeats 1000000 in
theorem eqCels_same (v1 v2 : Value) (n : Nat) (xs : List Int) (B1 B2 : Nat) (w : World) (h1 : CRow w B1 v1 n xs) (h2 : CRow w B2 v2 n xs) (hl : n ≤ 1048576) :
    Calls Try.prog 26 #[v1, v2] w (Ret w (.bool true)) := by
  by_cases h0 : n = 0
  · obtain ⟨A1, c1, rfl⟩ := h1.shape
    obtain ⟨A2, c2, rfl⟩ := h2.shape
    subst h0
    clear h1 h2
    go_enter Try.func26, Try.ntmps26
    go_wp2
    refine wp_loop_rounds 1 ?_; rw [rounds_succ]
    go_wp2
    go_ret
    exact ⟨rfl, Below.refl _ _⟩
  · obtain ⟨g1, c1, rfl, _, _⟩ := h1.form (by omega)
    obtain ⟨g2, c2, rfl, _, _⟩ := h2.form (by omega)
    have HE0 : Hid (CQ2 w B1 B2 (.slice (some ⟨g1, 0, none⟩) n c1) (.slice (some ⟨g2, 0, none⟩) n c2) n xs w) := Lib.hid ⟨h1, h2, Below.refl _ _⟩
    have HR : Hid (∀ (x y : Int) (w : World), Calls Try.prog 78 #[.agg #[.int .i64 x, .int .i64 y], .agg #[.int .i64 x, .int .i64 y]] w (Ret w (.bool true))) := Lib.hid eqCell_any
    clear h1 h2 h0
    go_enter Try.func26, Try.ntmps26
    go_wp2_with fail
    go_loopw [5] (fun i wr => ∃ k : Nat, k ≤ n ∧ i = .int .i64 (k : Int) ∧ CQ2 w B1 B2 (.slice (some ⟨g1, 0, none⟩) n c1) (.slice (some ⟨g2, 0, none⟩) n c2) n xs wr) (fun i _ => n - (intOf i).toNat)
    case atStart => exact ⟨0, Nat.zero_le _, rfl, HE0.out⟩
    case round =>
      obtain ⟨k, hk, rfl, heq⟩ := hrel
      clear HE0
      by_cases hlt : k < n
      · have i1 : (k : Int) < (n : Int) := by omega
        have i2 : (0 : Int) ≤ (k : Int) := by omega
        obtain ⟨x0, hx0⟩ : ∃ x0, xs.getD (k * 2) 0 = x0 := ⟨_, rfl⟩
        obtain ⟨x1, hx1⟩ : ∃ x1, xs.getD (k * 2 + 1) 0 = x1 := ⟨_, rfl⟩
        have HK : Hid (k < n ∧ xs.getD (k * 2) 0 = x0 ∧ xs.getD (k * 2 + 1) 0 = x1) := Lib.hid ⟨hlt, hx0, hx1⟩
        have HE := Lib.hid (heq.kept (Below.refl _ _).drew)
        clear hx0 hx1 heq
        go_wp2_with fail
        go_region_held3 (fun X => X.cell? ⟨g1, k * 2, none⟩ = some (.int .i64 x0) ∧ X.cell? ⟨g1, k * 2 + 1, none⟩ = some (.int .i64 x1) ∧ X.cell? ⟨g2, k * 2, none⟩ = some (.int .i64 x0) ∧ X.cell? ⟨g2, k * 2 + 1, none⟩ = some (.int .i64 x1) ∧ CQ2 w B1 B2 (.slice (some ⟨g1, 0, none⟩) n c1) (.slice (some ⟨g2, 0, none⟩) n c2) n xs X) (first | exact ceMk HE.out HK.out.1 HK.out.2.1 HK.out.2.2 | assumption | exact ceKeep (by assumption) HK (by assumption)) (first | (go_at_call 78; refine (HR.out _ _ _).mono ?_; rintro e w4 ⟨rfl, hb4⟩; have HE4 := Lib.hid ((ceOf (by assumption)).kept hb4)))
        go_wp2_with fail
        go_roundw
        case rel => exact ⟨k + 1, by omega, by go_num, HE4.out⟩
        case measure => simp [intOf]; omega
      · go_wp2_with fail
        go_ret
        exact ⟨rfl, heq.below⟩
set_option maxHeartbeats 800000 in
theorem markCels_any (v : Value) (n : Nat) (xs : List Int) (B : Nat) (m : Int) (w : World) (h1 : CRow w B v n xs) (hl : n ≤ 1048576) (hm : 0 ≤ m ∧ m ≤ 1048576) :
    Calls Try.prog 27 #[v, .int .i64 m] w fun e w' => e = .returned (.int .i64 (m + n * 2)) ∧ CRow w' B v n (marks m (n * 2)) ∧ w.grownBy w' v.ownBlock := by
  by_cases h0 : n = 0
  · subst h0
    obtain ⟨A1, c1, rfl⟩ := h1.shape
    obtain rfl : xs = [] := List.eq_nil_of_length_eq_zero (by have := h1.2; omega)
    have H1 := Lib.hid h1
    clear h1
    go_enter Try.func27, Try.ntmps27
    go_wp2
    refine wp_loop_rounds 1 ?_; rw [rounds_succ]
    go_wp2
    go_ret
    exact ⟨ret_int (by simp), H1.out, grown_refl' _ _⟩
  · obtain ⟨g1, c1, rfl, _, _⟩ := h1.form (by omega)
    have hs : Marked xs m (n * 2) 0 := Marked.zero m h1.2
    go_enter Try.func27, Try.ntmps27
    go_wp2
    go_loopw [1, 5] (fun q i wr => ∃ k : Nat, k ≤ n ∧ i = .int .i64 k ∧ q = .int .i64 (m + k * 2) ∧ ∃ ys, Marked ys m (n * 2) (k * 2) ∧ CRow wr B (.slice (some ⟨g1, 0, none⟩) n c1) n ys ∧ w.grownBy wr (some g1)) (fun _ i _ => n - (intOf i).toNat)
    case atStart => exact ⟨0, Nat.zero_le _, rfl, by go_num, xs, hs, h1, grown_refl' _ _⟩
    case round =>
      obtain ⟨k, hk, rfl, rfl, ys, hmk, hrow, hg⟩ := hrel
      by_cases hlt : k < n
      · have e1 := hrow.cell (j := k * 2) (by omega)
        have e2 := hrow.free (k * 2)
        have e3 := hrow.cell (j := k * 2 + 1) (by omega)
        have e4 := hrow.free (k * 2 + 1)
        have hst := hrow.set (k * 2) (m + (k * 2 : Nat))
        have hst2 := hst.1.set (k * 2 + 1) (m + (k * 2 + 1 : Nat))
        have hmk2 := (hmk.succ (by omega)).succ (by omega)
        have hgg := grown_trans' (grown_trans' hg hst.2) hst2.2
        rw [show m + ((k * 2 : Nat) : Int) = m + (k : Int) * 2 by omega, show m + ((k * 2 + 1 : Nat) : Int) = m + (k : Int) * 2 + 1 by omega] at hst2 hgg hmk2
        have HST := Lib.hid hst2
        have HMK := Lib.hid hmk2
        have HG := Lib.hid hgg
        clear hst hst2 hmk2 hrow hmk hg hgg
        go_wp2
        go_roundw
        case rel => exact ⟨k + 1, by omega, by go_num, by go_num, _, (by have := HMK.out; rwa [show k * 2 + 1 + 1 = (k + 1) * 2 by omega] at this), HST.out.1, HG.out⟩
        case measure => simp [intOf]; omega
      · go_wp2
        obtain rfl : k = n := by omega
        go_ret
        exact ⟨rfl, by rw [← hmk.full rfl]; exact hrow, hg⟩
/-- append of one cell to a slice of the call's own -/
theorem wpList_pushC {ops : Array Oper} {rest : List Oper} {o : Oper} {a : Act} {Q : Exit → Act → World → Prop} {w : World} (p q : Int) (s x : Operand) (hgd : o.guard = none)
    (ho : o.op = .call { callee := .builtin .append, args := #[s, x], argTypes := #[27, 27] })
    (B : Nat) (v : Value) (n : Nat) (xs : List Int) (hs : a.eval s = v) (hown : CRow w B v n xs) (gb : Nat) (hgb : gb = w.heap.size) (hx : a.eval x = .slice (some ⟨gb, 0, none⟩) 1 1)
    (hlen : n ≤ 1048576) (hB : B ≤ w.heap.size)
    (h : ∀ v' w', CRow w' B v' (n + 1) (xs ++ [p, q]) → w.grownBy w' v.ownBlock → (v'.ownBlock = v.ownBlock ∨ ∃ g, v'.ownBlock = some g ∧ w.heap.size ≤ g) → wpList Try.prog ops Q rest (a.put o.dst v') w') :
    wpList Try.prog ops Q (o :: rest) a (w.alloc (.cells #[.int .i64 p, .int .i64 q] 39)) := by
  subst hgb
  obtain ⟨i0, hi, hz0, hz1, hz2⟩ := info_parts celInfo
  have hxl := hown.2
  refine wpList_append_own_at _ hgd s x 27 ho B 39 i0 _ 2 16 Try.underlying27 hi hz0 hz1 hz2 rfl (by decide) v n (xs.map (Value.int .i64)) hs (World.ownsRow.alloc hown.1 _)
    ⟨w.heap.size, 0, none⟩ 1 1 [.int .i64 p, .int .i64 q] hx rfl ?_ ?_ ?_ ?_ ?_ ?_
  · intro j y hj
    match j, hj with
    | 0, hj => simp at hj; subst hj; simp [Addr.add]
    | 1, hj => simp at hj; subst hj; simp [Addr.add]
  · intro y hy
    simp at hy
    rcases hy with rfl | rfl <;> rfl
  · unfold maxLen; omega
  · omega
  · simp; omega
  · intro v' w' h1 h2 _ h4
    refine h v' w' ⟨?_, by rw [List.length_append, hxl]; simp; omega⟩ (grown_alloc_left h2) ?_
    · rw [List.map_append]
      exact h1
    · rcases h4 with h4 | h4
      · exact .inl h4
      · exact .inr ⟨_, h4, by simp⟩
/-- what make hands back -/
theorem made_pairsC (n : Nat) : (madeCells (Value.agg #[.int .i64 0, .int .i64 0]).cells (n * 2)).toList = (List.replicate (n * 2) (0 : Int)).map (Value.int .i64) := by
  have hc : (Value.agg #[.int .i64 0, .int .i64 0]).cells = #[Value.int .i64 0, Value.int .i64 0] := by simp [Value.cells]
  rw [hc]
  apply List.ext_getElem?
  intro j
  by_cases hj : j < n * 2
  · rcases (show j % 2 = 0 ∨ j % 2 = 1 by omega) with h | h <;> simp [madeCells, hj, h]
  · simp [madeCells, hj]
/-- a call that hands back a slice of cells of its own and a bool -/
def CsRet (w : World) (ok : Bool) (n : Nat) (xs : List Int) (e : Ending) (w' : World) : Prop :=
  ∃ v, e = .returned (.tuple #[v, .bool ok]) ∧ CRow w' w.heap.size v n xs ∧ Below w.heap.size w w'
end Go.Proofs.Ytnlmjeakdjmohaa
