/- Pack 3 of what FnExactFirstApart needs: Own, Lists. -/
import Derived.Test.YtnlmjeakdjmohaaKFnExactFirstApart2
import Derived.Test.YtnlmjeakdjmohaaProg
import Derived.WalkKit
import Derived.WalkSpells
import Derived.WalkLawsBesides
import Derived.Lib.Hide
import Derived.Maps.AppendAt
import Derived.Deep.QuietTactic
import Derived.BigQuiet
/- Words for memory: a slice of ints that the call owns; facts on it. -/
namespace Go.Proofs.Ytnlmjeakdjmohaa
open Go.RowKit

theorem intInfo : (Try.prog.info? 3).map (fun i => (i.zero, i.size, i.bytes)) = some (some (.int .i64 0), 1, 8) := by kernel_rfl
/-- the slice value v owns the ints xs, in a block from B on -/
def IRow (w : World) (B : Nat) (v : Value) (xs : List Int) : Prop := w.ownsRow B 3 1 v xs.length (xs.map (Value.int .i64))
section
variable {w w' : World} {B : Nat} {v : Value} {xs : List Int}
theorem IRow.nil (w : World) (B : Nat) : IRow w B (.slice none 0 0) [] := World.ownsRow_nil _ _ _ _
theorem IRow.mono (h : IRow w B v xs) {B' : Nat} (hb : B' ≤ B) : IRow w B' v xs := by
  refine ⟨h.1, ?_⟩
  rcases h.2 with h2 | ⟨g, cap, cur, hv, hg, r⟩
  · exact .inl h2
  · exact .inr ⟨g, cap, cur, hv, Nat.le_trans hb hg, r⟩
theorem IRow.alloc (h : IRow w B v xs) (o : Obj) : IRow (w.alloc o) B v xs := World.ownsRow.alloc h o
theorem IRow.drew (h : IRow w B v xs) : IRow w.drew B v xs := h
theorem IRow.drewN (h : IRow w B v xs) (n : Nat) : IRow (w.drewN n) B v xs := h
/-- what is owned stays owned in a world in which nothing below its heap has turned -/
theorem IRow.below (h : IRow w B v xs) (hb : Below w.heap.size w w') : IRow w' B v xs :=
  World.ownsRow.kept (row := none) h ⟨hb.os, hb.tape, hb.output, hb.size, fun k hk _ => hb.block k hk⟩ (by cases v.ownBlock <;> simp)
/-- a row that is not empty has a head -/
theorem IRow.form (h : IRow w B v xs) (hx : 0 < xs.length) : ∃ g c, v = .slice (some ⟨g, 0, none⟩) xs.length c ∧ B ≤ g ∧ g < w.heap.size ∧ xs.length ≤ c ∧ c ≤ maxLen := by
  rcases h.2 with ⟨_, h0⟩ | ⟨g, cap, cur, hv, hg, hh, hc, hm, _⟩
  · omega
  · exact ⟨g, cap, hv, hg, (Array.getElem?_eq_some_iff.1 hh).1, hc, hm⟩
theorem IRow.shape (h : IRow w B v xs) : ∃ A c, v = .slice A xs.length c := by
  rcases h.2 with ⟨h1, h0⟩ | ⟨g, cap, cur, hv, _⟩
  · exact ⟨none, 0, by rw [h1, h0]⟩
  · exact ⟨_, cap, hv⟩
theorem IRow.form' {n : Nat} (h : IRow w B v xs) (hn : xs.length = n) (hx : 0 < n) : ∃ g c, v = .slice (some ⟨g, 0, none⟩) n c ∧ B ≤ g ∧ g < w.heap.size := by
  subst hn
  obtain ⟨g, c, h1, h2, h3, _⟩ := h.form hx
  exact ⟨g, c, h1, h2, h3⟩
theorem IRow.cell {g c n : Nat} (h : IRow w B (.slice (some ⟨g, 0, none⟩) n c) xs) {j : Nat} (hj : j < xs.length) : w.cell? ⟨g, j, none⟩ = some (.int .i64 (xs.getD j 0)) := by
  have hn : n = xs.length := by
    rcases h.2 with ⟨h0, _⟩ | ⟨g', cap, cur, hv, _⟩
    · simp at h0
    · simp at hv; exact hv.2.1
  subst hn
  rw [World.ownsRow.cellAt h j (by omega)]
  simp [hj]
theorem IRow.free {g c n : Nat} (h : IRow w B (.slice (some ⟨g, 0, none⟩) n c) xs) (j : Nat) : w.frozen? ⟨g, j, none⟩ = false := by
  have hn : n = xs.length := by
    rcases h.2 with ⟨h0, _⟩ | ⟨g', cap, cur, hv, _⟩
    · simp at h0
    · simp at hv; exact hv.2.1
  subst hn
  exact World.ownsRow.frozenAt h j
theorem IRow.set {g c n : Nat} (h : IRow w B (.slice (some ⟨g, 0, none⟩) n c) xs) (j : Nat) (u : Int) :
    IRow (w.setCell ⟨g, j, none⟩ (.int .i64 u)) B (.slice (some ⟨g, 0, none⟩) n c) (xs.set j u) ∧ w.grownBy (w.setCell ⟨g, j, none⟩ (.int .i64 u)) (some g) := by
  have hn : n = xs.length := by
    rcases h.2 with ⟨h0, _⟩ | ⟨g', cap, cur, hv, _⟩
    · simp at h0
    · simp at hv; exact hv.2.1
  subst hn
  have := World.ownsRow.stored h j (.int .i64 u)
  refine ⟨?_, this.2⟩
  have h1 := this.1
  unfold IRow
  rw [List.length_set, List.map_set]
  exact h1
theorem IRow.lt {g c n : Nat} (h : IRow w B (.slice (some ⟨g, 0, none⟩) n c) xs) : B ≤ g ∧ g < w.heap.size := World.ownsRow.lt h g rfl
theorem IRow.of_own {n : Nat} {ys : List Value} (h : w.ownsRow B 3 1 v n ys) (hn : n = xs.length) (hy : ys = xs.map (Value.int .i64)) : IRow w B v xs := by subst hn hy; exact h
end

theorem still {P : Program} {f : FuncId} {args : Array Value} {w : World} {v : Value} (h : Calls P f args w fun e w' => e = .returned v ∧ w = w') :
    Calls P f args w fun e w' => e = .returned v ∧ w' = w := h.mono fun _ _ ⟨h1, h2⟩ => ⟨h1, h2.symm⟩
theorem madeOne (z : Value) (hz : z.cells = #[z]) (n : Nat) : (madeCells z.cells (n * 1)).toList = List.replicate n z := by
  rw [hz, Nat.mul_one]; exact toList_madeCells_one z n
theorem ret_int {a b : Int} (h : a = b) : Ending.returned (.int .i64 a) = .returned (.int .i64 b) := by rw [h]

theorem grown_alloc_left {w w' : World} {o : Obj} {row : Option Nat} (h : (w.alloc o).grownBy w' row) : w.grownBy w' row :=
  ⟨h.os, h.tape, h.output, Nat.le_trans (by simp) h.size, fun k hk hne => (h.block k (by simp; omega) hne).trans (Below.heap_alloc w o k hk)⟩

/-- append of one int to a slice of the call's own: one goal, the new slice owns one more -/
theorem wpList_push {ops : Array Oper} {rest : List Oper} {o : Oper} {a : Act} {Q : Exit → Act → World → Prop} {w : World} {u : Int} (s x : Operand) (hgd : o.guard = none)
    (ho : o.op = .call { callee := .builtin .append, args := #[s, x], argTypes := #[44, 44] })
    (B : Nat) (v : Value) (xs : List Int) (hs : a.eval s = v) (hown : IRow w B v xs) (hx : a.eval x = .slice (some ⟨w.heap.size, 0, none⟩) 1 1)
    (hlen : xs.length ≤ 1099511627776) (hB : B ≤ w.heap.size)
    (h : ∀ v' w', IRow w' B v' (xs ++ [u]) → w.grownBy w' v.ownBlock → (v'.ownBlock = v.ownBlock ∨ ∃ g, v'.ownBlock = some g ∧ w.heap.size ≤ g) → wpList Try.prog ops Q rest (a.put o.dst v') w') :
    wpList Try.prog ops Q (o :: rest) a (w.alloc (.cells #[.int .i64 u] 3)) := by
  obtain ⟨i0, hi, hz0, hz1, hz2⟩ := info_parts intInfo
  refine wpList_append_own_at _ hgd s x 44 ho B 3 i0 (.int .i64 0) 1 8 Try.underlying44 hi hz0 hz1 hz2 rfl (by decide) v xs.length (xs.map (Value.int .i64)) hs (World.ownsRow.alloc hown _)
    ⟨w.heap.size, 0, none⟩ 1 1 [.int .i64 u] hx rfl ?_ ?_ ?_ ?_ ?_ ?_
  · intro j y hj
    match j, hj with
    | 0, hj => simp at hj; subst hj; simp [Addr.add]
  · intro y hy; simp at hy; subst hy; rfl
  · unfold maxLen; omega
  · omega
  · simp; omega
  · intro v' w' h1 h2 _ h4
    refine h v' w' ?_ (grown_alloc_left h2) ?_
    · unfold IRow
      simpa using h1
    · rcases h4 with h4 | h4
      · exact .inl h4
      · exact .inr ⟨_, h4, by simp⟩

/-- append of one int to a slice of the call's own: one goal, the new slice owns one more -/
theorem wpList_pushG {ops : Array Oper} {rest : List Oper} {o : Oper} {a : Act} {Q : Exit → Act → World → Prop} {w : World} {u : Int} (s x : Operand) (hgd : o.guard = none)
    (ho : o.op = .call { callee := .builtin .append, args := #[s, x], argTypes := #[44, 44] })
    (B : Nat) (v : Value) (xs : List Int) (hs : a.eval s = v) (hown : IRow w B v xs) (gb : Nat) (hgb : gb = w.heap.size) (hx : a.eval x = .slice (some ⟨gb, 0, none⟩) 1 1)
    (hlen : xs.length ≤ 1099511627776) (hB : B ≤ w.heap.size)
    (h : ∀ v' w', IRow w' B v' (xs ++ [u]) → w.grownBy w' v.ownBlock → (v'.ownBlock = v.ownBlock ∨ ∃ g, v'.ownBlock = some g ∧ w.heap.size ≤ g) → wpList Try.prog ops Q rest (a.put o.dst v') w') :
    wpList Try.prog ops Q (o :: rest) a (w.alloc (.cells #[.int .i64 u] 3)) := by
  subst hgb
  obtain ⟨i0, hi, hz0, hz1, hz2⟩ := info_parts intInfo
  refine wpList_append_own_at _ hgd s x 44 ho B 3 i0 (.int .i64 0) 1 8 Try.underlying44 hi hz0 hz1 hz2 rfl (by decide) v xs.length (xs.map (Value.int .i64)) hs (World.ownsRow.alloc hown _)
    ⟨w.heap.size, 0, none⟩ 1 1 [.int .i64 u] hx rfl ?_ ?_ ?_ ?_ ?_ ?_
  · intro j y hj
    match j, hj with
    | 0, hj => simp at hj; subst hj; simp [Addr.add]
  · intro y hy; simp at hy; subst hy; rfl
  · unfold maxLen; omega
  · omega
  · simp; omega
  · intro v' w' h1 h2 _ h4
    refine h v' w' ?_ (grown_alloc_left h2) ?_
    · unfold IRow
      simpa using h1
    · rcases h4 with h4 | h4
      · exact .inl h4
      · exact .inr ⟨_, h4, by simp⟩

/-- A call that hands back a new slice of ints and true. -/
def IntsOk (w : World) (xs : List Int) (e : Ending) (w' : World) : Prop :=
  ∃ v, e = .returned (.tuple #[v, .bool true]) ∧ IRow w' w.heap.size v xs ∧ Below w.heap.size w w'
/-- A call that hands back a new slice of ints. -/
def IntsNew (w : World) (xs : List Int) (e : Ending) (w' : World) : Prop :=
  ∃ v, e = .returned v ∧ IRow w' w.heap.size v xs ∧ Below w.heap.size w w'
/-- A call that fails: nil and false. -/
def IntsNo (w : World) (e : Ending) (w' : World) : Prop := e = .returned (.tuple #[.slice none 0 0, .bool false]) ∧ w = w'
/-- A call that hands back a slice of ints of its own and a bool. -/
def IntsRet (w : World) (ok : Bool) (xs : List Int) (e : Ending) (w' : World) : Prop :=
  ∃ v, e = .returned (.tuple #[v, .bool ok]) ∧ IRow w' w.heap.size v xs ∧ Below w.heap.size w w'
/-- A call that hands back the value v and leaves all that was there as it was. -/
def Ret (w : World) (v : Value) (e : Ending) (w' : World) : Prop := e = .returned v ∧ Below w.heap.size w w'
theorem IntsOk.ret {w : World} {xs : List Int} {e : Ending} {w' : World} (h : IntsOk w xs e w') : IntsRet w true xs e w' := h
theorem IntsNo.ret {w : World} {e : Ending} {w' : World} (h : IntsNo w e w') : IntsRet w false [] e w' := by
  obtain ⟨h1, rfl⟩ := h
  exact ⟨_, h1, IRow.nil _ _, Below.refl _ _⟩
theorem below_drewN {B : Nat} {a w : World} (h : Below B a w) (n : Nat) : Below B a (w.drewN n) := ⟨h.os, h.tape, h.output, h.size, h.block⟩
/-- two rows: the one below, the other new -/
theorem IRow.grown_other {w w' : World} {B B2 : Nat} {v v2 : Value} {xs : List Int} (h : IRow w B v xs) (hg : w.grownBy w' v2.ownBlock) (hv : ∀ k, v.ownBlock = some k → k < B2) (hv2 : ∀ k, v2.ownBlock = some k → B2 ≤ k) : IRow w' B v xs :=
  World.ownsRow.kept h hg (by
    cases e : v.ownBlock with
    | none => exact .inl rfl
    | some k =>
      right
      intro e2
      have a := hv k e
      have b := hv2 k e2.symm
      omega)
theorem IRow.blk {w : World} {B : Nat} {v : Value} {xs : List Int} (h : IRow w B v xs) : ∀ k, v.ownBlock = some k → B ≤ k ∧ k < w.heap.size := World.ownsRow.lt h
end Go.Proofs.Ytnlmjeakdjmohaa

/- eqIntS, markIntS, heldIntS: the laws' own helpers on slices of ints. -/
namespace Go.Proofs.Ytnlmjeakdjmohaa
open Go.RowKit

set_option maxHeartbeats 400000 in
theorem eqInts_same (v1 v2 : Value) (xs : List Int) (B1 B2 : Nat) (w : World) (h1 : IRow w B1 v1 xs) (h2 : IRow w B2 v2 xs) (hl : xs.length ≤ 1099511627776) :
    Calls Try.prog 38 #[v1, v2] w fun e w' => e = .returned (.bool true) ∧ ∃ n, w' = w.drewN n := by
  by_cases h0 : xs.length = 0
  · obtain ⟨A1, c1, rfl⟩ := h1.shape
    obtain ⟨A2, c2, rfl⟩ := h2.shape
    rw [h0]
    clear h1 h2
    go_enter Try.func38, Try.ntmps38
    go_wp2
    refine wp_loop_rounds 1 ?_; rw [rounds_succ]
    go_wp2
    go_ret
    exact ⟨rfl, 0, rfl⟩
  · obtain ⟨g1, c1, rfl, _, _⟩ := h1.form' rfl (by omega)
    obtain ⟨g2, c2, rfl, _, _⟩ := h2.form' rfl (by omega)
    have H1 := Lib.hid h1
    have H2 := Lib.hid h2
    clear h1 h2 h0
    generalize hn : xs.length = n at *
    have HN := Lib.hid hn
    clear hn
    go_enter Try.func38, Try.ntmps38
    go_wp2
    go_loopw [5] (fun i wr => ∃ k : Nat, k ≤ n ∧ i = .int .i64 k ∧ ∃ m, wr = w.drewN m) (fun i _ => n - (intOf i).toNat)
    case atStart => exact ⟨0, Nat.zero_le _, rfl, 0, rfl⟩
    case round =>
      obtain ⟨k, hk, rfl, m, rfl⟩ := hrel
      by_cases hlt : k < n
      · have e1 := H1.out.cell (j := k) (by rw [HN.out]; omega)
        have e2 := H2.out.cell (j := k) (by rw [HN.out]; omega)
        have i1 : (k : Int) < (n : Int) := by omega
        go_wp2
        go_quiet (fail)
        go_wp2
        go_roundw
        case rel => exact ⟨k + 1, by omega, by go_num, _, rfl⟩
        case measure => simp [intOf]; omega
      · go_wp2
        go_ret
        exact ⟨rfl, m, rfl⟩

/-- the numbers m, m+1, .. -/
def marks (m : Int) (n : Nat) : List Int := (List.range n).map fun j => m + (j : Nat)
theorem marks_length (m : Int) (n : Nat) : (marks m n).length = n := by simp [marks]
theorem marks_get (m : Int) (n k : Nat) (h : k < n) : (marks m n).getD k 0 = m + k := by
  unfold marks; rw [List.getD_eq_getElem?_getD, List.getElem?_map, List.getElem?_range h]; rfl
/-- the first k are marked -/
def Marked (ys : List Int) (m : Int) (n k : Nat) : Prop := ys.length = n ∧ ∀ j, j < k → ys.getD j 0 = m + (j : Nat)
theorem Marked.zero {ys : List Int} {n : Nat} (m : Int) (h : ys.length = n) : Marked ys m n 0 := ⟨h, fun _ h => absurd h (by omega)⟩
theorem Marked.succ {ys : List Int} {m : Int} {n k : Nat} (h : Marked ys m n k) (hk : k < n) : Marked (ys.set k (m + (k : Nat))) m n (k + 1) := by
  refine ⟨by rw [List.length_set]; exact h.1, fun j hj => ?_⟩
  rw [List.getD_eq_getElem?_getD, List.getElem?_set]
  by_cases e : k = j
  · subst e; rw [if_pos rfl, if_pos (by rw [h.1]; exact hk)]; rfl
  · rw [if_neg e, ← List.getD_eq_getElem?_getD]; exact h.2 j (by omega)
theorem Marked.full {ys : List Int} {m : Int} {n k : Nat} (h : Marked ys m n k) (hk : k = n) : ys = marks m n := by
  subst hk
  apply List.ext_getElem
  · rw [h.1, marks_length]
  · intro j h1 h2
    have a := h.2 j (by rw [h.1] at h1; exact h1)
    have b := marks_get m k j (by rw [h.1] at h1; exact h1)
    rw [List.getD_eq_getElem?_getD, List.getElem?_eq_getElem h1] at a
    rw [List.getD_eq_getElem?_getD, List.getElem?_eq_getElem h2] at b
    simp at a b
    rw [a, b]

theorem grown_trans' {a b c : World} {r : Option Nat} (h : a.grownBy b r) (k : b.grownBy c r) : a.grownBy c r :=
  ⟨k.os.trans h.os, k.tape.trans h.tape, k.output.trans h.output, Nat.le_trans h.size k.size, fun i hi hn => (k.block i (Nat.lt_of_lt_of_le hi h.size) hn).trans (h.block i hi hn)⟩
theorem grown_refl' (w : World) (r : Option Nat) : w.grownBy w r := ⟨rfl, rfl, rfl, Nat.le_refl _, fun _ _ _ => rfl⟩

set_option maxHeartbeats 400000 in
theorem markInts_any (v : Value) (xs : List Int) (B : Nat) (m : Int) (w : World) (h1 : IRow w B v xs) (hl : xs.length ≤ 1099511627776) (hm : 0 ≤ m ∧ m ≤ 1099511627776) :
    Calls Try.prog 39 #[v, .int .i64 m] w fun e w' => e = .returned (.int .i64 (m + xs.length)) ∧ IRow w' B v (marks m xs.length) ∧ w.grownBy w' v.ownBlock := by
  by_cases h0 : xs.length = 0
  · obtain ⟨A1, c1, rfl⟩ := h1.shape
    obtain rfl : xs = [] := List.eq_nil_of_length_eq_zero h0
    have H1 := Lib.hid h1
    clear h1 h0
    go_enter Try.func39, Try.ntmps39
    go_wp2
    refine wp_loop_rounds 1 ?_; rw [rounds_succ]
    go_wp2
    go_ret
    exact ⟨ret_int (by simp), H1.out, grown_refl' _ _⟩
  · obtain ⟨g1, c1, rfl, _, _⟩ := h1.form' rfl (by omega)
    generalize hn : xs.length = n at *
    have hs : Marked xs m n 0 := Marked.zero m hn
    clear hn
    go_enter Try.func39, Try.ntmps39
    go_wp2
    go_loopw [1, 5] (fun q i wr => ∃ k : Nat, k ≤ n ∧ i = .int .i64 k ∧ q = .int .i64 (m + k) ∧ ∃ ys, Marked ys m n k ∧ IRow wr B (.slice (some ⟨g1, 0, none⟩) n c1) ys ∧ w.grownBy wr (some g1)) (fun _ i _ => n - (intOf i).toNat)
    case atStart => exact ⟨0, Nat.zero_le _, rfl, by go_num, xs, hs, h1, grown_refl' _ _⟩
    case round =>
      obtain ⟨k, hk, rfl, rfl, ys, hmk, hrow, hg⟩ := hrel
      by_cases hlt : k < n
      · have e1 := hrow.cell (j := k) (by rw [hmk.1]; omega)
        have e2 := hrow.free k
        have hst := hrow.set k (m + (k : Nat))
        go_wp2
        go_roundw
        case rel => exact ⟨k + 1, by omega, by go_num, by go_num, _, hmk.succ hlt, hst.1, grown_trans' hg hst.2⟩
        case measure => simp [intOf]; omega
      · go_wp2
        obtain rfl : k = n := by omega
        go_ret
        exact ⟨rfl, by rw [← hmk.full rfl]; exact hrow, hg⟩

set_option maxHeartbeats 400000 in
theorem heldInts_any (v : Value) (n : Nat) (B : Nat) (m : Int) (w : World) (h1 : IRow w B v (marks m n)) (hl : n ≤ 1099511627776) (hm : 0 ≤ m ∧ m ≤ 1099511627776) :
    Calls Try.prog 40 #[v, .int .i64 m] w fun e w' => e = .returned (.int .i64 (m + n)) ∧ w = w' := by
  by_cases h0 : n = 0
  · subst h0
    obtain ⟨A1, c1, rfl⟩ := h1.shape
    rw [marks_length] at *
    clear h1
    go_enter Try.func40, Try.ntmps40
    go_wp2
    refine wp_loop_rounds 1 ?_; rw [rounds_succ]
    go_wp2
    go_ret
    exact ⟨ret_int (by simp), rfl⟩
  · obtain ⟨g1, c1, rfl, _, _⟩ := h1.form' (marks_length m n) (by omega)
    have H1 := Lib.hid h1
    clear h1 h0
    go_enter Try.func40, Try.ntmps40
    go_wp2
    go_loop [1, 5] (fun q i => ∃ k : Nat, k ≤ n ∧ i = .int .i64 k ∧ q = .int .i64 (m + k)) (fun _ i => n - (intOf i).toNat)
    case atStart => exact ⟨0, Nat.zero_le _, rfl, by go_num⟩
    case round =>
      obtain ⟨k, hk, rfl, rfl⟩ := hrel
      by_cases hlt : k < n
      · have e1 := H1.out.cell (j := k) (by rw [marks_length]; omega)
        rw [marks_get m n k hlt] at e1
        go_wp2
        go_round
        case rel => exact ⟨k + 1, by omega, by go_num, by go_num⟩
        case measure => simp [intOf]; omega
      · go_wp2
        obtain rfl : k = n := by omega
        go_ret
        exact ⟨rfl, rfl⟩
end Go.Proofs.Ytnlmjeakdjmohaa
