/- Pack 1 of what FnFansAndCubes needs: Own, Cur, Lists. -/
import Derived.Test.YtmfcknlpbliehabProg
import Derived.WalkKit
import Derived.WalkSpells
import Derived.WalkLawsBesides
import Derived.Lib.Hide
import Derived.Maps.AppendAt
import Derived.Deep.QuietTactic
import Derived.BigQuiet
import Derived.Deep.RegionHeld3
import Derived.Laws.Bits64b
/- Words for memory: a slice of ints that the call owns; facts on it. -/
namespace Go.Proofs.Ytmfcknlpbliehab
open Go.RowKit

theorem intInfo : (Try.prog.info? 3).map (fun i => (i.zero, i.size, i.bytes)) = some (some (.int .i64 0), 1, 8) := by kernel_rfl
/-- the slice value v owns the ints xs, in a block from B on -/
def IRow (w : World) (B : Nat) (v : Value) (xs : List Int) : Prop := w.ownsRow B 3 1 v xs.length (xs.map (Value.int .i64))
section
variable {w w' : World} {B : Nat} {v : Value} {xs : List Int}
theorem IRow.nil (w : World) (B : Nat) : IRow w B (.slice none 0 0) [] := World.ownsRow_nil _ _ _ _
theorem IRow.mono (h : IRow w B v xs) {B' : Nat} (hb : B' ≤ B) : IRow w B' v xs := by
  refine ⟨h.1, ?_⟩
  rcases h.2 with h2 | ⟨g, cap, cur, hv, hg, r⟩
  · exact .inl h2
  · exact .inr ⟨g, cap, cur, hv, Nat.le_trans hb hg, r⟩
theorem IRow.alloc (h : IRow w B v xs) (o : Obj) : IRow (w.alloc o) B v xs := World.ownsRow.alloc h o
theorem IRow.drew (h : IRow w B v xs) : IRow w.drew B v xs := h
theorem IRow.drewN (h : IRow w B v xs) (n : Nat) : IRow (w.drewN n) B v xs := h
/-- what is owned stays owned in a world in which nothing below its heap has turned -/
theorem IRow.below (h : IRow w B v xs) (hb : Below w.heap.size w w') : IRow w' B v xs :=
  World.ownsRow.kept (row := none) h ⟨hb.os, hb.tape, hb.output, hb.size, fun k hk _ => hb.block k hk⟩ (by cases v.ownBlock <;> simp)
/-- a row that is not empty has a head -/
theorem IRow.form (h : IRow w B v xs) (hx : 0 < xs.length) : ∃ g c, v = .slice (some ⟨g, 0, none⟩) xs.length c ∧ B ≤ g ∧ g < w.heap.size ∧ xs.length ≤ c ∧ c ≤ maxLen := by
  rcases h.2 with ⟨_, h0⟩ | ⟨g, cap, cur, hv, hg, hh, hc, hm, _⟩
  · omega
  · exact ⟨g, cap, hv, hg, (Array.getElem?_eq_some_iff.1 hh).1, hc, hm⟩
theorem IRow.shape (h : IRow w B v xs) : ∃ A c, v = .slice A xs.length c := by
  rcases h.2 with ⟨h1, h0⟩ | ⟨g, cap, cur, hv, _⟩
  · exact ⟨none, 0, by rw [h1, h0]⟩
  · exact ⟨_, cap, hv⟩
theorem IRow.form' {n : Nat} (h : IRow w B v xs) (hn : xs.length = n) (hx : 0 < n) : ∃ g c, v = .slice (some ⟨g, 0, none⟩) n c ∧ B ≤ g ∧ g < w.heap.size := by
  subst hn
  obtain ⟨g, c, h1, h2, h3, _⟩ := h.form hx
  exact ⟨g, c, h1, h2, h3⟩
theorem IRow.cell {g c n : Nat} (h : IRow w B (.slice (some ⟨g, 0, none⟩) n c) xs) {j : Nat} (hj : j < xs.length) : w.cell? ⟨g, j, none⟩ = some (.int .i64 (xs.getD j 0)) := by
  have hn : n = xs.length := by
    rcases h.2 with ⟨h0, _⟩ | ⟨g', cap, cur, hv, _⟩
    · simp at h0
    · simp at hv; exact hv.2.1
  subst hn
  rw [World.ownsRow.cellAt h j (by omega)]
  simp [hj]
theorem IRow.free {g c n : Nat} (h : IRow w B (.slice (some ⟨g, 0, none⟩) n c) xs) (j : Nat) : w.frozen? ⟨g, j, none⟩ = false := by
  have hn : n = xs.length := by
    rcases h.2 with ⟨h0, _⟩ | ⟨g', cap, cur, hv, _⟩
    · simp at h0
    · simp at hv; exact hv.2.1
  subst hn
  exact World.ownsRow.frozenAt h j
theorem IRow.set {g c n : Nat} (h : IRow w B (.slice (some ⟨g, 0, none⟩) n c) xs) (j : Nat) (u : Int) :
    IRow (w.setCell ⟨g, j, none⟩ (.int .i64 u)) B (.slice (some ⟨g, 0, none⟩) n c) (xs.set j u) ∧ w.grownBy (w.setCell ⟨g, j, none⟩ (.int .i64 u)) (some g) := by
  have hn : n = xs.length := by
    rcases h.2 with ⟨h0, _⟩ | ⟨g', cap, cur, hv, _⟩
    · simp at h0
    · simp at hv; exact hv.2.1
  subst hn
  have := World.ownsRow.stored h j (.int .i64 u)
  refine ⟨?_, this.2⟩
  have h1 := this.1
  unfold IRow
  rw [List.length_set, List.map_set]
  exact h1
theorem IRow.lt {g c n : Nat} (h : IRow w B (.slice (some ⟨g, 0, none⟩) n c) xs) : B ≤ g ∧ g < w.heap.size := World.ownsRow.lt h g rfl
theorem IRow.of_own {n : Nat} {ys : List Value} (h : w.ownsRow B 3 1 v n ys) (hn : n = xs.length) (hy : ys = xs.map (Value.int .i64)) : IRow w B v xs := by subst hn hy; exact h
end

theorem still {P : Program} {f : FuncId} {args : Array Value} {w : World} {v : Value} (h : Calls P f args w fun e w' => e = .returned v ∧ w = w') :
    Calls P f args w fun e w' => e = .returned v ∧ w' = w := h.mono fun _ _ ⟨h1, h2⟩ => ⟨h1, h2.symm⟩
theorem madeOne (z : Value) (hz : z.cells = #[z]) (n : Nat) : (madeCells z.cells (n * 1)).toList = List.replicate n z := by
  rw [hz, Nat.mul_one]; exact toList_madeCells_one z n
theorem ret_int {a b : Int} (h : a = b) : Ending.returned (.int .i64 a) = .returned (.int .i64 b) := by rw [h]

theorem grown_alloc_left {w w' : World} {o : Obj} {row : Option Nat} (h : (w.alloc o).grownBy w' row) : w.grownBy w' row :=
  ⟨h.os, h.tape, h.output, Nat.le_trans (by simp) h.size, fun k hk hne => (h.block k (by simp; omega) hne).trans (Below.heap_alloc w o k hk)⟩

/-- append of one int to a slice of the call's own: one goal, the new slice owns one more -/
theorem wpList_push {ops : Array Oper} {rest : List Oper} {o : Oper} {a : Act} {Q : Exit → Act → World → Prop} {w : World} {u : Int} (s x : Operand) (hgd : o.guard = none)
    (ho : o.op = .call { callee := .builtin .append, args := #[s, x], argTypes := #[24, 24] })
    (B : Nat) (v : Value) (xs : List Int) (hs : a.eval s = v) (hown : IRow w B v xs) (hx : a.eval x = .slice (some ⟨w.heap.size, 0, none⟩) 1 1)
    (hlen : xs.length ≤ 1099511627776) (hB : B ≤ w.heap.size)
    (h : ∀ v' w', IRow w' B v' (xs ++ [u]) → w.grownBy w' v.ownBlock → (v'.ownBlock = v.ownBlock ∨ ∃ g, v'.ownBlock = some g ∧ w.heap.size ≤ g) → wpList Try.prog ops Q rest (a.put o.dst v') w') :
    wpList Try.prog ops Q (o :: rest) a (w.alloc (.cells #[.int .i64 u] 3)) := by
  obtain ⟨i0, hi, hz0, hz1, hz2⟩ := info_parts intInfo
  refine wpList_append_own_at _ hgd s x 24 ho B 3 i0 (.int .i64 0) 1 8 Try.underlying24 hi hz0 hz1 hz2 rfl (by decide) v xs.length (xs.map (Value.int .i64)) hs (World.ownsRow.alloc hown _)
    ⟨w.heap.size, 0, none⟩ 1 1 [.int .i64 u] hx rfl ?_ ?_ ?_ ?_ ?_ ?_
  · intro j y hj
    match j, hj with
    | 0, hj => simp at hj; subst hj; simp [Addr.add]
  · intro y hy; simp at hy; subst hy; rfl
  · unfold maxLen; omega
  · omega
  · simp; omega
  · intro v' w' h1 h2 _ h4
    refine h v' w' ?_ (grown_alloc_left h2) ?_
    · unfold IRow
      simpa using h1
    · rcases h4 with h4 | h4
      · exact .inl h4
      · exact .inr ⟨_, h4, by simp⟩

/-- append of one int to a slice of the call's own: one goal, the new slice owns one more -/
theorem wpList_pushG {ops : Array Oper} {rest : List Oper} {o : Oper} {a : Act} {Q : Exit → Act → World → Prop} {w : World} {u : Int} (s x : Operand) (hgd : o.guard = none)
    (ho : o.op = .call { callee := .builtin .append, args := #[s, x], argTypes := #[24, 24] })
    (B : Nat) (v : Value) (xs : List Int) (hs : a.eval s = v) (hown : IRow w B v xs) (gb : Nat) (hgb : gb = w.heap.size) (hx : a.eval x = .slice (some ⟨gb, 0, none⟩) 1 1)
    (hlen : xs.length ≤ 1099511627776) (hB : B ≤ w.heap.size)
    (h : ∀ v' w', IRow w' B v' (xs ++ [u]) → w.grownBy w' v.ownBlock → (v'.ownBlock = v.ownBlock ∨ ∃ g, v'.ownBlock = some g ∧ w.heap.size ≤ g) → wpList Try.prog ops Q rest (a.put o.dst v') w') :
    wpList Try.prog ops Q (o :: rest) a (w.alloc (.cells #[.int .i64 u] 3)) := by
  subst hgb
  obtain ⟨i0, hi, hz0, hz1, hz2⟩ := info_parts intInfo
  refine wpList_append_own_at _ hgd s x 24 ho B 3 i0 (.int .i64 0) 1 8 Try.underlying24 hi hz0 hz1 hz2 rfl (by decide) v xs.length (xs.map (Value.int .i64)) hs (World.ownsRow.alloc hown _)
    ⟨w.heap.size, 0, none⟩ 1 1 [.int .i64 u] hx rfl ?_ ?_ ?_ ?_ ?_ ?_
  · intro j y hj
    match j, hj with
    | 0, hj => simp at hj; subst hj; simp [Addr.add]
  · intro y hy; simp at hy; subst hy; rfl
  · unfold maxLen; omega
  · omega
  · simp; omega
  · intro v' w' h1 h2 _ h4
    refine h v' w' ?_ (grown_alloc_left h2) ?_
    · unfold IRow
      simpa using h1
    · rcases h4 with h4 | h4
      · exact .inl h4
      · exact .inr ⟨_, h4, by simp⟩

/-- A call that hands back a new slice of ints and true. -/
def IntsOk (w : World) (xs : List Int) (e : Ending) (w' : World) : Prop :=
  ∃ v, e = .returned (.tuple #[v, .bool true]) ∧ IRow w' w.heap.size v xs ∧ Below w.heap.size w w'
/-- A call that hands back a new slice of ints. -/
def IntsNew (w : World) (xs : List Int) (e : Ending) (w' : World) : Prop :=
  ∃ v, e = .returned v ∧ IRow w' w.heap.size v xs ∧ Below w.heap.size w w'
/-- A call that fails: nil and false. -/
def IntsNo (w : World) (e : Ending) (w' : World) : Prop := e = .returned (.tuple #[.slice none 0 0, .bool false]) ∧ w = w'
/-- A call that hands back a slice of ints of its own and a bool. -/
def IntsRet (w : World) (ok : Bool) (xs : List Int) (e : Ending) (w' : World) : Prop :=
  ∃ v, e = .returned (.tuple #[v, .bool ok]) ∧ IRow w' w.heap.size v xs ∧ Below w.heap.size w w'
/-- A call that hands back the value v and leaves all that was there as it was. -/
def Ret (w : World) (v : Value) (e : Ending) (w' : World) : Prop := e = .returned v ∧ Below w.heap.size w w'
theorem IntsOk.ret {w : World} {xs : List Int} {e : Ending} {w' : World} (h : IntsOk w xs e w') : IntsRet w true xs e w' := h
theorem IntsNo.ret {w : World} {e : Ending} {w' : World} (h : IntsNo w e w') : IntsRet w false [] e w' := by
  obtain ⟨h1, rfl⟩ := h
  exact ⟨_, h1, IRow.nil _ _, Below.refl _ _⟩
theorem below_drewN {B : Nat} {a w : World} (h : Below B a w) (n : Nat) : Below B a (w.drewN n) := ⟨h.os, h.tape, h.output, h.size, h.block⟩
/-- two rows: the one below, the other new -/
theorem IRow.grown_other {w w' : World} {B B2 : Nat} {v v2 : Value} {xs : List Int} (h : IRow w B v xs) (hg : w.grownBy w' v2.ownBlock) (hv : ∀ k, v.ownBlock = some k → k < B2) (hv2 : ∀ k, v2.ownBlock = some k → B2 ≤ k) : IRow w' B v xs :=
  World.ownsRow.kept h hg (by
    cases e : v.ownBlock with
    | none => exact .inl rfl
    | some k =>
      right
      intro e2
      have a := hv k e
      have b := hv2 k e2.symm
      omega)
theorem IRow.blk {w : World} {B : Nat} {v : Value} {xs : List Int} (h : IRow w B v xs) : ∀ k, v.ownBlock = some k → B ≤ k ∧ k < w.heap.size := World.ownsRow.lt h
end Go.Proofs.Ytmfcknlpbliehab

/- The cursor of the laws' draws: next, pick. Only how far its answers go is said. -/
namespace Go.Proofs.Ytmfcknlpbliehab
open Go.RowKit
/-- len bytes lie from A on, all below block g -/
def CodeAt (w : World) (g : Nat) (A : Option Addr) (len : Nat) : Prop := ∀ j, j < len → ∃ (a : Addr) (x : Nat), A = some a ∧ a.block < g ∧ x ≤ 255 ∧ w.cell? (a.add j) = some (.int .u8 (x : Nat))
/-- block g holds a cursor over the code A, len, cap; it has come to T at most -/
structure Cur (w : World) (g : Nat) (A : Option Addr) (len cap T : Nat) : Prop where
  code : CodeAt w g A len
  c0 : w.cell? ⟨g, 0, none⟩ = some (.slice A len cap)
  c1 : ∃ a : Nat, a ≤ T ∧ w.cell? ⟨g, 1, none⟩ = some (.int .i64 (a : Nat))
  c2 : ∃ z : Int, 0 ≤ z ∧ z < 18446744073709551616 ∧ w.cell? ⟨g, 2, none⟩ = some (.int .u64 z)
  free : ∀ j, w.frozen? ⟨g, j, none⟩ = false
  lt : g < w.heap.size
/-- the world at hand is named, and what is said of it -/
theorem wp_name {P : Program} {c : Code} {Q : Exit → Act → World → Prop} {a : Act} {w : World} (S : World → Prop) (h : S w) (k : ∀ W, S W → c.wp P Q a W) : c.wp P Q a w := k w h
theorem add_block (a : Addr) (j : Nat) : (a.add j).block = a.block := by unfold Addr.add; split <;> rfl
theorem CodeAt.kept {w w' : World} {g : Nat} {A : Option Addr} {len : Nat} (h : CodeAt w g A len) (hg : w.grownBy w' (some g)) (hl : g < w.heap.size) : CodeAt w' g A len := fun j hj => by
  obtain ⟨a, x, h1, h2, h3, h4⟩ := h j hj
  refine ⟨a, x, h1, h2, h3, ?_⟩
  rw [← h4]
  have hb := add_block a j
  unfold World.cell?
  rw [hb, hg.block a.block (by omega) (fun e => by injection e with e; omega)]
theorem Cur.drewN {w : World} {g : Nat} {A : Option Addr} {len cap T : Nat} (h : Cur w g A len cap T) (n : Nat) : Cur (w.drewN n) g A len cap T := ⟨h.code, h.c0, h.c1, h.c2, h.free, h.lt⟩
theorem grown_drewN {w w' : World} {r : Option Nat} (h : w.grownBy w' r) (n : Nat) : w.grownBy (w'.drewN n) r := ⟨h.os, h.tape, h.output, h.size, h.block⟩
theorem and255 (z : Int) (h1 : 0 ≤ z) (h2 : z < 18446744073709551616) : 0 ≤ wrap64 (bits BinOp.and IntKind.u64 (z / 1099511627776) 255) ∧ wrap64 (bits BinOp.and IntKind.u64 (z / 1099511627776) 255) ≤ 255 := by
  obtain ⟨n, hn⟩ : ∃ n : Nat, z / 1099511627776 = (n : Int) := ⟨(z / 1099511627776).toNat, by omega⟩
  rw [hn]
  have := bits_and_u64_nat n 255 (by omega) (by omega)
  have e : (255 : Int) = ((255 : Nat) : Int) := rfl
  rw [e, this]
  have hle : n &&& 255 ≤ 255 := Nat.and_le_right
  generalize n &&& 255 = m at *
  have hw : wrap64 ((m : Nat) : Int) = (m : Int) := by unfold wrap64; omega
  rw [hw]
  omega
/-- where the cursor stands behind a step -/
def CurS (w : World) (g : Nat) (A : Option Addr) (len cap T a : Nat) (W : World) : Prop :=
  W.cell? ⟨g, 0, none⟩ = some (.slice A len cap) ∧ W.cell? ⟨g, 1, none⟩ = some (.int .i64 ((a : Int) + 1)) ∧
  (∃ z : Int, 0 ≤ z ∧ z < 18446744073709551616 ∧ W.cell? ⟨g, 2, none⟩ = some (.int .u64 z)) ∧ Cur W g A len cap (T + 1) ∧ w.grownBy W (some g)
theorem u64_bd (y : Int) : 0 ≤ IntKind.u64.wrap y ∧ IntKind.u64.wrap y < 18446744073709551616 := by
  rw [IntKind.wrap_u64]; omega
theorem grown_setCell {w w' : World} {g : Nat} (h : w.grownBy w' (some g)) (j : Nat) (v : Value) : w.grownBy (w'.setCell ⟨g, j, none⟩ v) (some g) :=
  ⟨h.os.trans (by simp), h.tape.trans (by simp), h.output.trans (by simp), by have := h.size; simpa using this, fun k hk hn => by
    rw [← h.block k hk hn]
    exact Below.heap_setCell _ _ _ _ (by intro e; exact hn (by rw [e]))⟩
theorem CurS.intro {w : World} {g : Nat} {A : Option Addr} {len cap T : Nat} (h : Cur w g A len cap T) {a : Nat} (ha : a ≤ T) (m : Nat) (y : Int) :
    CurS w g A len cap T a (((w.drewN m).setCell ⟨g, 1, none⟩ (.int .i64 ((a : Int) + 1))).setCell ⟨g, 2, none⟩ (.int .u64 (IntKind.u64.wrap y))) := by
  obtain ⟨a1, _, c1⟩ := h.c1
  obtain ⟨z, _, _, c2⟩ := h.c2
  have hg : w.grownBy (((w.drewN m).setCell ⟨g, 1, none⟩ (.int .i64 ((a : Int) + 1))).setCell ⟨g, 2, none⟩ (.int .u64 (IntKind.u64.wrap y))) (some g) :=
    grown_setCell (grown_setCell (w := w) (w' := w.drewN m) ⟨rfl, rfl, rfl, Nat.le_refl _, fun _ _ _ => rfl⟩ _ _) _ _
  have d0 : (((w.drewN m).setCell ⟨g, 1, none⟩ (.int .i64 ((a : Int) + 1))).setCell ⟨g, 2, none⟩ (.int .u64 (IntKind.u64.wrap y))).cell? ⟨g, 0, none⟩ = some (.slice A len cap) := by
    rw [World.cell?_setCell_other _ _ _ _ (by simp), World.cell?_setCell_other _ _ _ _ (by simp)]; exact h.c0
  have d1 : (((w.drewN m).setCell ⟨g, 1, none⟩ (.int .i64 ((a : Int) + 1))).setCell ⟨g, 2, none⟩ (.int .u64 (IntKind.u64.wrap y))).cell? ⟨g, 1, none⟩ = some (.int .i64 ((a : Int) + 1)) := by
    rw [World.cell?_setCell_other _ _ _ _ (by simp)]
    exact World.cell?_setCell_same _ _ _ (u := .int .i64 (a1 : Nat)) c1
  have d2 : (((w.drewN m).setCell ⟨g, 1, none⟩ (.int .i64 ((a : Int) + 1))).setCell ⟨g, 2, none⟩ (.int .u64 (IntKind.u64.wrap y))).cell? ⟨g, 2, none⟩ = some (.int .u64 (IntKind.u64.wrap y)) := by
    refine World.cell?_setCell_same _ _ _ (u := .int .u64 z) ?_
    rw [World.cell?_setCell_other _ _ _ _ (by simp)]
    exact c2
  have hb := u64_bd y
  refine ⟨d0, d1, ⟨_, hb.1, hb.2, d2⟩, ⟨h.code.kept hg h.lt, d0, ⟨a + 1, by omega, d1⟩, ⟨_, hb.1, hb.2, d2⟩, fun j => by simpa using h.free j, by have := h.lt; simpa using this⟩, hg⟩
set_option maxRecDepth 100000 in
set_option maxHeartbeats 1000000 in
theorem next_any (w : World) (g : Nat) (A : Option Addr) (len cap T : Nat) (hc : Cur w g A len cap T) (hT : T ≤ 1099511627776) (hl : len ≤ 1099511627776) :
    Calls Try.prog 65 #[.pointer (some ⟨g, 0, none⟩)] w fun e w' => ∃ x : Int, e = .returned (.int .i64 x) ∧ 0 ≤ x ∧ x ≤ 255 ∧ Cur w' g A len cap (T + 1) ∧ w.grownBy w' (some g) := by
  obtain ⟨a, ha, c1⟩ := hc.c1
  obtain ⟨z, hz1, hz2, c2⟩ := hc.c2
  have c0 := hc.c0
  have f0 := hc.free 0
  have f1 := hc.free 1
  have f2 := hc.free 2
  have HC := Lib.hid hc
  clear hc
  by_cases hlt : a < len
  · obtain ⟨A, x, rfl, hb, hx, hx0⟩ := HC.out.code a hlt
    have i1 : (a : Int) < (len : Int) := by omega
    go_enter Try.func65, Try.ntmps65
    go_wp2
    go_quiet (fail)
    go_wp2
    go_quiet (fail)
    go_wp2
    refine wp_name (CurS w g (some A) len cap T a) (CurS.intro HC.out ha _ _) ?_
    rintro W ⟨d0, d1, ⟨zz, hzz1, hzz2, d2⟩, hcur, hgr⟩
    clear c0 c1 c2 f0 f1 f2 hz1 hz2 hx0
    have i2 : (a : Int) + 1 ≤ (len : Int) := by omega
    go_quiet (fail)
    go_wp2
    go_ret
    exact ⟨_, rfl, by omega, by omega, hcur.drewN _, grown_drewN hgr _⟩
  · have d1 : decide ((a : Int) < (len : Int)) = false := decide_eq_false (by omega)
    go_enter Try.func65, Try.ntmps65
    go_wp2
    go_quiet (fail)
    go_wp2
    refine wp_name (CurS w g A len cap T a) (CurS.intro HC.out ha _ _) ?_
    rintro W ⟨d0, d1, ⟨zz, hzz1, hzz2, d2⟩, hcur, hgr⟩
    clear c0 c1 c2 f0 f1 f2 hz1 hz2
    have i2 : decide ((a : Int) + 1 ≤ (len : Int)) = false := decide_eq_false (by omega)
    go_quiet (fail)
    go_wp2
    go_ret
    exact ⟨_, rfl, (and255 zz hzz1 hzz2).1, (and255 zz hzz1 hzz2).2, hcur.drewN _, grown_drewN hgr _⟩
end Go.Proofs.Ytmfcknlpbliehab

/- eqIntS, markIntS, heldIntS: the laws' own helpers on slices of ints. -/
namespace Go.Proofs.Ytmfcknlpbliehab
open Go.RowKit

/-- the numbers m, m+1, .. -/
def marks (m : Int) (n : Nat) : List Int := (List.range n).map fun j => m + (j : Nat)
theorem marks_length (m : Int) (n : Nat) : (marks m n).length = n := by simp [marks]
theorem marks_get (m : Int) (n k : Nat) (h : k < n) : (marks m n).getD k 0 = m + k := by
  unfold marks; rw [List.getD_eq_getElem?_getD, List.getElem?_map, List.getElem?_range h]; rfl
/-- the first k are marked -/
def Marked (ys : List Int) (m : Int) (n k : Nat) : Prop := ys.length = n ∧ ∀ j, j < k → ys.getD j 0 = m + (j : Nat)
theorem Marked.zero {ys : List Int} {n : Nat} (m : Int) (h : ys.length = n) : Marked ys m n 0 := ⟨h, fun _ h => absurd h (by omega)⟩
theorem Marked.succ {ys : List Int} {m : Int} {n k : Nat} (h : Marked ys m n k) (hk : k < n) : Marked (ys.set k (m + (k : Nat))) m n (k + 1) := by
  refine ⟨by rw [List.length_set]; exact h.1, fun j hj => ?_⟩
  rw [List.getD_eq_getElem?_getD, List.getElem?_set]
  by_cases e : k = j
  · subst e; rw [if_pos rfl, if_pos (by rw [h.1]; exact hk)]; rfl
  · rw [if_neg e, ← List.getD_eq_getElem?_getD]; exact h.2 j (by omega)
theorem Marked.full {ys : List Int} {m : Int} {n k : Nat} (h : Marked ys m n k) (hk : k = n) : ys = marks m n := by
  subst hk
  apply List.ext_getElem
  · rw [h.1, marks_length]
  · intro j h1 h2
    have a := h.2 j (by rw [h.1] at h1; exact h1)
    have b := marks_get m k j (by rw [h.1] at h1; exact h1)
    rw [List.getD_eq_getElem?_getD, List.getElem?_eq_getElem h1] at a
    rw [List.getD_eq_getElem?_getD, List.getElem?_eq_getElem h2] at b
    simp at a b
    rw [a, b]

theorem grown_trans' {a b c : World} {r : Option Nat} (h : a.grownBy b r) (k : b.grownBy c r) : a.grownBy c r :=
  ⟨k.os.trans h.os, k.tape.trans h.tape, k.output.trans h.output, Nat.le_trans h.size k.size, fun i hi hn => (k.block i (Nat.lt_of_lt_of_le hi h.size) hn).trans (h.block i hi hn)⟩
theorem grown_refl' (w : World) (r : Option Nat) : w.grownBy w r := ⟨rfl, rfl, rfl, Nat.le_refl _, fun _ _ _ => rfl⟩

end Go.Proofs.Ytmfcknlpbliehab
