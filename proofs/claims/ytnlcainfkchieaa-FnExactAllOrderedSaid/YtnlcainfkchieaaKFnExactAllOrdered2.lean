/- Pack 2 of what FnExactAllOrdered needs: Lists, Bytes. -/
import Derived.Test.YtnlcainfkchieaaKFnExactAllOrdered1
import Derived.Deep.QuietTactic
import Derived.BigQuiet
import Derived.Laws.IdiomStrings
import Derived.Lib.ConvBytes
/- eqIntS, markIntS, heldIntS: the laws' own helpers on slices of ints. -/
namespace Go.Proofs.Ytnlcainfkchieaa
open Go.RowKit

set_option maxHeartbeats 400000 in
theorem eqInts_same (v1 v2 : Value) (xs : List Int) (B1 B2 : Nat) (w : World) (h1 : IRow w B1 v1 xs) (h2 : IRow w B2 v2 xs) (hl : xs.length ≤ 1099511627776) :
    Calls Try.prog 14 #[v1, v2] w fun e w' => e = .returned (.bool true) ∧ ∃ n, w' = w.drewN n := by
  by_cases h0 : xs.length = 0
  · obtain ⟨A1, c1, rfl⟩ := h1.shape
    obtain ⟨A2, c2, rfl⟩ := h2.shape
    rw [h0]
    clear h1 h2
    go_enter Try.func14, Try.ntmps14
    go_wp2
    refine wp_loop_rounds 1 ?_; rw [rounds_succ]
    go_wp2
    go_ret
    exact ⟨rfl, 0, rfl⟩
  · obtain ⟨g1, c1, rfl, _, _⟩ := h1.form' rfl (by omega)
    obtain ⟨g2, c2, rfl, _, _⟩ := h2.form' rfl (by omega)
    have H1 := Lib.hid h1
    have H2 := Lib.hid h2
    clear h1 h2 h0
    generalize hn : xs.length = n at *
    have HN := Lib.hid hn
    clear hn
    go_enter Try.func14, Try.ntmps14
    go_wp2
    go_loopw [5] (fun i wr => ∃ k : Nat, k ≤ n ∧ i = .int .i64 k ∧ ∃ m, wr = w.drewN m) (fun i _ => n - (intOf i).toNat)
    case atStart => exact ⟨0, Nat.zero_le _, rfl, 0, rfl⟩
    case round =>
      obtain ⟨k, hk, rfl, m, rfl⟩ := hrel
      by_cases hlt : k < n
      · have e1 := H1.out.cell (j := k) (by rw [HN.out]; omega)
        have e2 := H2.out.cell (j := k) (by rw [HN.out]; omega)
        have i1 : (k : Int) < (n : Int) := by omega
        go_wp2
        go_quiet (fail)
        go_wp2
        go_roundw
        case rel => exact ⟨k + 1, by omega, by go_num, _, rfl⟩
        case measure => simp [intOf]; omega
      · go_wp2
        go_ret
        exact ⟨rfl, m, rfl⟩

/-- the numbers m, m+1, .. -/
def marks (m : Int) (n : Nat) : List Int := (List.range n).map fun j => m + (j : Nat)
theorem marks_length (m : Int) (n : Nat) : (marks m n).length = n := by simp [marks]
theorem marks_get (m : Int) (n k : Nat) (h : k < n) : (marks m n).getD k 0 = m + k := by
  unfold marks; rw [List.getD_eq_getElem?_getD, List.getElem?_map, List.getElem?_range h]; rfl
/-- the first k are marked -/
def Marked (ys : List Int) (m : Int) (n k : Nat) : Prop := ys.length = n ∧ ∀ j, j < k → ys.getD j 0 = m + (j : Nat)
theorem Marked.zero {ys : List Int} {n : Nat} (m : Int) (h : ys.length = n) : Marked ys m n 0 := ⟨h, fun _ h => absurd h (by omega)⟩
theorem Marked.succ {ys : List Int} {m : Int} {n k : Nat} (h : Marked ys m n k) (hk : k < n) : Marked (ys.set k (m + (k : Nat))) m n (k + 1) := by
  refine ⟨by rw [List.length_set]; exact h.1, fun j hj => ?_⟩
  rw [List.getD_eq_getElem?_getD, List.getElem?_set]
  by_cases e : k = j
  · subst e; rw [if_pos rfl, if_pos (by rw [h.1]; exact hk)]; rfl
  · rw [if_neg e, ← List.getD_eq_getElem?_getD]; exact h.2 j (by omega)
theorem Marked.full {ys : List Int} {m : Int} {n k : Nat} (h : Marked ys m n k) (hk : k = n) : ys = marks m n := by
  subst hk
  apply List.ext_getElem
  · rw [h.1, marks_length]
  · intro j h1 h2
    have a := h.2 j (by rw [h.1] at h1; exact h1)
    have b := marks_get m k j (by rw [h.1] at h1; exact h1)
    rw [List.getD_eq_getElem?_getD, List.getElem?_eq_getElem h1] at a
    rw [List.getD_eq_getElem?_getD, List.getElem?_eq_getElem h2] at b
    simp at a b
    rw [a, b]

theorem grown_trans' {a b c : World} {r : Option Nat} (h : a.grownBy b r) (k : b.grownBy c r) : a.grownBy c r :=
  ⟨k.os.trans h.os, k.tape.trans h.tape, k.output.trans h.output, Nat.le_trans h.size k.size, fun i hi hn => (k.block i (Nat.lt_of_lt_of_le hi h.size) hn).trans (h.block i hi hn)⟩
theorem grown_refl' (w : World) (r : Option Nat) : w.grownBy w r := ⟨rfl, rfl, rfl, Nat.le_refl _, fun _ _ _ => rfl⟩

set_option maxHeartbeats 400000 in
theorem markInts_any (v : Value) (xs : List Int) (B : Nat) (m : Int) (w : World) (h1 : IRow w B v xs) (hl : xs.length ≤ 1099511627776) (hm : 0 ≤ m ∧ m ≤ 1099511627776) :
    Calls Try.prog 20 #[v, .int .i64 m] w fun e w' => e = .returned (.int .i64 (m + xs.length)) ∧ IRow w' B v (marks m xs.length) ∧ w.grownBy w' v.ownBlock := by
  by_cases h0 : xs.length = 0
  · obtain ⟨A1, c1, rfl⟩ := h1.shape
    obtain rfl : xs = [] := List.eq_nil_of_length_eq_zero h0
    have H1 := Lib.hid h1
    clear h1 h0
    go_enter Try.func20, Try.ntmps20
    go_wp2
    refine wp_loop_rounds 1 ?_; rw [rounds_succ]
    go_wp2
    go_ret
    exact ⟨ret_int (by simp), H1.out, grown_refl' _ _⟩
  · obtain ⟨g1, c1, rfl, _, _⟩ := h1.form' rfl (by omega)
    generalize hn : xs.length = n at *
    have hs : Marked xs m n 0 := Marked.zero m hn
    clear hn
    go_enter Try.func20, Try.ntmps20
    go_wp2
    go_loopw [1, 5] (fun q i wr => ∃ k : Nat, k ≤ n ∧ i = .int .i64 k ∧ q = .int .i64 (m + k) ∧ ∃ ys, Marked ys m n k ∧ IRow wr B (.slice (some ⟨g1, 0, none⟩) n c1) ys ∧ w.grownBy wr (some g1)) (fun _ i _ => n - (intOf i).toNat)
    case atStart => exact ⟨0, Nat.zero_le _, rfl, by go_num, xs, hs, h1, grown_refl' _ _⟩
    case round =>
      obtain ⟨k, hk, rfl, rfl, ys, hmk, hrow, hg⟩ := hrel
      by_cases hlt : k < n
      · have e1 := hrow.cell (j := k) (by rw [hmk.1]; omega)
        have e2 := hrow.free k
        have hst := hrow.set k (m + (k : Nat))
        go_wp2
        go_roundw
        case rel => exact ⟨k + 1, by omega, by go_num, by go_num, _, hmk.succ hlt, hst.1, grown_trans' hg hst.2⟩
        case measure => simp [intOf]; omega
      · go_wp2
        obtain rfl : k = n := by omega
        go_ret
        exact ⟨rfl, by rw [← hmk.full rfl]; exact hrow, hg⟩

set_option maxHeartbeats 400000 in
theorem heldInts_any (v : Value) (n : Nat) (B : Nat) (m : Int) (w : World) (h1 : IRow w B v (marks m n)) (hl : n ≤ 1099511627776) (hm : 0 ≤ m ∧ m ≤ 1099511627776) :
    Calls Try.prog 36 #[v, .int .i64 m] w fun e w' => e = .returned (.int .i64 (m + n)) ∧ w = w' := by
  by_cases h0 : n = 0
  · subst h0
    obtain ⟨A1, c1, rfl⟩ := h1.shape
    rw [marks_length] at *
    clear h1
    go_enter Try.func36, Try.ntmps36
    go_wp2
    refine wp_loop_rounds 1 ?_; rw [rounds_succ]
    go_wp2
    go_ret
    exact ⟨ret_int (by simp), rfl⟩
  · obtain ⟨g1, c1, rfl, _, _⟩ := h1.form' (marks_length m n) (by omega)
    have H1 := Lib.hid h1
    clear h1 h0
    go_enter Try.func36, Try.ntmps36
    go_wp2
    go_loop [1, 5] (fun q i => ∃ k : Nat, k ≤ n ∧ i = .int .i64 k ∧ q = .int .i64 (m + k)) (fun _ i => n - (intOf i).toNat)
    case atStart => exact ⟨0, Nat.zero_le _, rfl, by go_num⟩
    case round =>
      obtain ⟨k, hk, rfl, rfl⟩ := hrel
      by_cases hlt : k < n
      · have e1 := H1.out.cell (j := k) (by rw [marks_length]; omega)
        rw [marks_get m n k hlt] at e1
        go_wp2
        go_round
        case rel => exact ⟨k + 1, by omega, by go_num, by go_num⟩
        case measure => simp [intOf]; omega
      · go_wp2
        obtain rfl : k = n := by omega
        go_ret
        exact ⟨rfl, rfl⟩
end Go.Proofs.Ytnlcainfkchieaa

/- Words for memory: bytes that the call owns; the two conversions between bytes and strings. -/
namespace Go.Proofs.Ytnlcainfkchieaa
open Go.RowKit

theorem bytInfo : (Try.prog.info? 5).map (fun i => (i.zero, i.size, i.bytes)) = some (some (.int .u8 0), 1, 1) := by kernel_rfl
def bv (c : UInt8) : Value := .int .u8 (c.toNat : Int)
/-- the slice value v owns the bytes xs, in a block from B on -/
def BOwn (w : World) (B : Nat) (v : Value) (xs : List UInt8) : Prop := w.ownsRow B 5 1 v xs.length (xs.map bv)
section
variable {w w' : World} {B : Nat} {v : Value} {xs : List UInt8}
theorem BOwn.nil (w : World) (B : Nat) : BOwn w B (.slice none 0 0) [] := World.ownsRow_nil _ _ _ _
theorem BOwn.mono (h : BOwn w B v xs) {B' : Nat} (hb : B' ≤ B) : BOwn w B' v xs := by
  refine ⟨h.1, ?_⟩
  rcases h.2 with h2 | ⟨g, cap, cur, hv, hg, r⟩
  · exact .inl h2
  · exact .inr ⟨g, cap, cur, hv, Nat.le_trans hb hg, r⟩
theorem BOwn.alloc (h : BOwn w B v xs) (o : Obj) : BOwn (w.alloc o) B v xs := World.ownsRow.alloc h o
theorem BOwn.drew (h : BOwn w B v xs) : BOwn w.drew B v xs := h
theorem BOwn.drewN (h : BOwn w B v xs) (n : Nat) : BOwn (w.drewN n) B v xs := h
theorem BOwn.below (h : BOwn w B v xs) (hb : Below w.heap.size w w') : BOwn w' B v xs :=
  World.ownsRow.kept (row := none) h ⟨hb.os, hb.tape, hb.output, hb.size, fun k hk _ => hb.block k hk⟩ (by cases v.ownBlock <;> simp)
theorem BOwn.form' {n : Nat} (h : BOwn w B v xs) (hn : xs.length = n) (hx : 0 < n) : ∃ g c, v = .slice (some ⟨g, 0, none⟩) n c ∧ B ≤ g ∧ g < w.heap.size := by
  subst hn
  rcases h.2 with ⟨_, h0⟩ | ⟨g, cap, cur, hv, hg, hh, hc, hm, _⟩
  · omega
  · exact ⟨g, cap, hv, hg, (Array.getElem?_eq_some_iff.1 hh).1⟩
theorem BOwn.shape (h : BOwn w B v xs) : ∃ A c, v = .slice A xs.length c := by
  rcases h.2 with ⟨h1, h0⟩ | ⟨g, cap, cur, hv, _⟩
  · exact ⟨none, 0, by rw [h1, h0]⟩
  · exact ⟨_, cap, hv⟩
theorem BOwn.len {A : Option Addr} {n c : Nat} (h : BOwn w B (.slice A n c) xs) : n = xs.length := by
  rcases h.2 with ⟨h0, h1⟩ | ⟨g', cap, cur, hv, _⟩
  · simp at h0; omega
  · simp at hv; exact hv.2.1
theorem BOwn.cell {g c n : Nat} (h : BOwn w B (.slice (some ⟨g, 0, none⟩) n c) xs) {j : Nat} (hj : j < xs.length) : w.cell? ⟨g, j, none⟩ = some (.int .u8 ((xs[j]).toNat : Int)) := by
  have hn := h.len
  subst hn
  rw [World.ownsRow.cellAt h j (by omega)]
  simp [hj, bv]
theorem BOwn.free {g c n : Nat} (h : BOwn w B (.slice (some ⟨g, 0, none⟩) n c) xs) (j : Nat) : w.frozen? ⟨g, j, none⟩ = false := by
  have hn := h.len
  subst hn
  exact World.ownsRow.frozenAt h j
theorem BOwn.set {g c n : Nat} (h : BOwn w B (.slice (some ⟨g, 0, none⟩) n c) xs) (j : Nat) (u : UInt8) :
    BOwn (w.setCell ⟨g, j, none⟩ (.int .u8 (u.toNat : Int))) B (.slice (some ⟨g, 0, none⟩) n c) (xs.set j u) ∧ w.grownBy (w.setCell ⟨g, j, none⟩ (.int .u8 (u.toNat : Int))) (some g) := by
  have hn := h.len
  subst hn
  have := World.ownsRow.stored h j (bv u)
  refine ⟨?_, this.2⟩
  have h1 := this.1
  unfold BOwn
  rw [List.length_set, List.map_set]
  exact h1
theorem BOwn.blk (h : BOwn w B v xs) : ∀ k, v.ownBlock = some k → B ≤ k ∧ k < w.heap.size := World.ownsRow.lt h
theorem BOwn.of_own {n : Nat} {ys : List Value} (h : w.ownsRow B 5 1 v n ys) (hn : n = xs.length) (hy : ys = xs.map bv) : BOwn w B v xs := by subst hn hy; exact h
end

/-- append of one byte to a slice of the call's own -/
theorem wpList_pushB {ops : Array Oper} {rest : List Oper} {o : Oper} {a : Act} {Q : Exit → Act → World → Prop} {w : World} (u : UInt8) (s x : Operand) (hgd : o.guard = none)
    (ho : o.op = .call { callee := .builtin .append, args := #[s, x], argTypes := #[67, 67] })
    (B : Nat) (v : Value) (xs : List UInt8) (hs : a.eval s = v) (hown : BOwn w B v xs) (hx : a.eval x = .slice (some ⟨w.heap.size, 0, none⟩) 1 1)
    (hlen : xs.length ≤ 1099511627776) (hB : B ≤ w.heap.size)
    (h : ∀ v' w', BOwn w' B v' (xs ++ [u]) → w.grownBy w' v.ownBlock → (v'.ownBlock = v.ownBlock ∨ ∃ g, v'.ownBlock = some g ∧ w.heap.size ≤ g) → wpList Try.prog ops Q rest (a.put o.dst v') w') :
    wpList Try.prog ops Q (o :: rest) a (w.alloc (.cells #[.int .u8 (u.toNat : Int)] 5)) := by
  obtain ⟨i0, hi, hz0, hz1, hz2⟩ := info_parts bytInfo
  refine wpList_append_own_at _ hgd s x 67 ho B 5 i0 (.int .u8 0) 1 1 Try.underlying67 hi hz0 hz1 hz2 rfl (by decide) v xs.length (xs.map bv) hs (World.ownsRow.alloc hown _)
    ⟨w.heap.size, 0, none⟩ 1 1 [bv u] hx rfl ?_ ?_ ?_ ?_ ?_ ?_
  · intro j y hj
    match j, hj with
    | 0, hj => simp at hj; subst hj; simp [Addr.add, bv]
  · intro y hy; simp at hy; subst hy; rfl
  · unfold maxLen; omega
  · omega
  · simp; omega
  · intro v' w' h1 h2 _ h4
    refine h v' w' ?_ (grown_alloc_left h2) ?_
    · unfold BOwn
      simpa using h1
    · rcases h4 with h4 | h4
      · exact .inl h4
      · exact .inr ⟨_, h4, by simp⟩

theorem ret_sb {a b : ByteArray} {c d : Bool} (h : a = b) (k : c = d) : Ending.returned (.tuple #[.string a, .bool c]) = .returned (.tuple #[.string b, .bool d]) := by rw [h, k]
theorem ret_s {a b : ByteArray} (h : a = b) : Ending.returned (.string a) = .returned (.string b) := by rw [h]
/-- bytes as a string -/
def strOf (l : List UInt8) : ByteArray := ⟨l.toArray⟩
theorem strOf_list (l : List UInt8) : (strOf l).data.toList = l := by simp [strOf]
theorem strOf_size (l : List UInt8) : (strOf l).size = l.length := by simp [strOf, ByteArray.size]
theorem strOf_self (s : ByteArray) : strOf s.data.toList = s := by simp [strOf]

theorem run_str_cells (w : World) (g n c : Nat) (xs : List UInt8) (hn : xs.length = n) (hc : ∀ j (hj : j < xs.length), w.cell? ⟨g, j, none⟩ = some (.int .u8 ((xs[j]).toNat : Int))) :
    (convert 67 9 (.slice (some ⟨g, 0, none⟩) n c)).run Try.prog w = .ok (.string (strOf xs)) w := by
  subst hn
  exact run_convert_bytes_back w 67 9 5 ⟨g, 0, none⟩ c xs Try.underlying67 Try.underlying5 Try.underlying9 (fun j hj => by
    have : (⟨g, 0, none⟩ : Addr).add j = ⟨g, j, none⟩ := by unfold Addr.add; split <;> simp_all
    rw [this]; exact hc j hj)
theorem run_str_nil (w : World) : (convert 67 9 (.slice none 0 0)).run Try.prog w = .ok (.string (strOf [])) w := by
  rw [run_convert_bytes_string w 67 9 5 none 0 0 Try.underlying67 Try.underlying5 Try.underlying9]
  rfl
theorem run_str_own {w : World} {B : Nat} {v : Value} {xs : List UInt8} (h : BOwn w B v xs) : (convert 67 9 v).run Try.prog w = .ok (.string (strOf xs)) w := by
  rcases h.2 with ⟨h1, h0⟩ | ⟨g, cap, cur, hv, _⟩
  · obtain rfl := h1
    obtain rfl : xs = [] := List.eq_nil_of_length_eq_zero h0
    exact run_str_nil w
  · subst hv
    exact run_str_cells w g _ cap xs rfl fun j hj => h.cell hj

/-- the world behind a conversion of a string to bytes -/
def bsWorld (w : World) (s : ByteArray) : World := Lib.bytesWorld w 5 s
def bsCap (w : World) (s : ByteArray) : Nat := grownCap w s.size 0 5
theorem run_bytes (s : ByteArray) (w : World) : (convert 9 67 (.string s)).run Try.prog w = .ok (.slice (some ⟨w.heap.size, 0, none⟩) s.size (bsCap w s)) (bsWorld w s) :=
  Lib.run_convert_string_bytes w 9 67 5 s Try.underlying9 Try.underlying67 Try.underlying5
theorem bsWorld_size (w : World) (s : ByteArray) : (bsWorld w s).heap.size = w.heap.size + 1 := Lib.bytesWorld_size _ _ _
theorem bsWorld_below (w : World) (s : ByteArray) : Below w.heap.size w (bsWorld w s) := by
  refine ⟨?_, ?_, ?_, by rw [bsWorld_size]; omega, fun k hk => Lib.bytesWorld_at_old w _ s k hk⟩ <;>
    simp [bsWorld, Lib.bytesWorld, World.freeze, World.alloc, World.drew, -World.alloc_eq, -World.drew_eq]

/-- bytes that lie in one block from its head, none of them frozen -/
structure BRow (w : World) (B g : Nat) (xs : List UInt8) : Prop where
  from_ : B ≤ g
  lt : g < w.heap.size
  cell : ∀ j (h : j < xs.length), w.cell? ⟨g, j, none⟩ = some (.int .u8 ((xs[j]).toNat : Int))
  free : ∀ j, j < xs.length → w.frozen? ⟨g, j, none⟩ = false
theorem BRow.below {w w' : World} {B g : Nat} {xs : List UInt8} (h : BRow w B g xs) (hb : Below w.heap.size w w') : BRow w' B g xs :=
  ⟨h.from_, Nat.lt_of_lt_of_le h.lt hb.size, fun j hj => (hb.cell (p := ⟨g, j, none⟩) h.lt).trans (h.cell j hj), fun j hj => (hb.frozen (p := ⟨g, j, none⟩) h.lt).trans (h.free j hj)⟩
theorem BRow.drew {w : World} {B g : Nat} {xs : List UInt8} (h : BRow w B g xs) : BRow w.drew B g xs := ⟨h.from_, h.lt, h.cell, h.free⟩
theorem BRow.mono {w : World} {B B' g : Nat} {xs : List UInt8} (h : BRow w B g xs) (hb : B' ≤ B) : BRow w B' g xs := ⟨Nat.le_trans hb h.from_, h.lt, h.cell, h.free⟩
theorem BRow.of_bs (w : World) (s : ByteArray) : BRow (bsWorld w s) w.heap.size w.heap.size s.data.toList := by
  refine ⟨Nat.le_refl _, by rw [bsWorld_size]; omega, fun j hj => ?_, fun j hj => ?_⟩
  · have := Lib.bytesWorld_cell w 5 s j (by simpa using hj)
    rw [List.getD_eq_getElem?_getD, List.getElem?_eq_getElem hj] at this
    exact this
  · unfold bsWorld World.frozen?
    rw [Lib.bytesWorld_at_new]
    have : s.size ≤ (Lib.bytesCells w 5 s).size := by simp [Lib.bytesCells]
    have hs : j < s.size := by simpa using hj
    have : ¬ (Lib.bytesCells w 5 s).size ≤ j := by omega
    simp [this]
theorem BRow.of_own {w : World} {B g n c : Nat} {xs : List UInt8} (h : BOwn w B (.slice (some ⟨g, 0, none⟩) n c) xs) : BRow w B g xs :=
  ⟨(h.blk g rfl).1, (h.blk g rfl).2, fun _ hj => h.cell hj, fun j _ => h.free j⟩
theorem BRow.set {w : World} {B g : Nat} {xs : List UInt8} (h : BRow w B g xs) (j : Nat) (u : UInt8) (hj : j < xs.length) : BRow (w.setCell ⟨g, j, none⟩ (.int .u8 (u.toNat : Int))) B g (xs.set j u) := by
  refine ⟨h.from_, by simpa [World.setCell] using h.lt, fun i hi => ?_, fun i hi => ?_⟩
  · rw [List.length_set] at hi
    by_cases e : j = i
    · subst e
      rw [List.getElem_set_self]
      exact World.cell?_setCell_same w ⟨g, j, none⟩ _ (h.cell j hj)
    · rw [List.getElem_set_ne e]
      rw [World.cell?_setCell_other w ⟨g, j, none⟩ ⟨g, i, none⟩ _ (fun h => e (by injection h))]
      exact h.cell i hi
  · rw [List.length_set] at hi
    rw [World.frozen?_setCell]
    exact h.free i hi
end Go.Proofs.Ytnlcainfkchieaa
