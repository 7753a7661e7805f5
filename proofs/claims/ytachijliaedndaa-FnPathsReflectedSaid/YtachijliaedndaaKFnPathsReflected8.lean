/- Pack 8 of what FnPathsReflected needs: Bytes, Turn. -/
import Derived.Test.YtachijliaedndaaKFnPathsReflected7
import Derived.Laws.IdiomStrings
import Derived.Lib.ConvBytes
/- Words for memory: bytes that the call owns; the two conversions between bytes and strings. -/
namespace Go.Proofs.Ytachijliaedndaa
open Go.RowKit

theorem bytInfo : (Try.prog.info? 5).map (fun i => (i.zero, i.size, i.bytes)) = some (some (.int .u8 0), 1, 1) := by kernel_rfl
def bv (c : UInt8) : Value := .int .u8 (c.toNat : Int)
/-- the slice value v owns the bytes xs, in a block from B on -/
def BOwn (w : World) (B : Nat) (v : Value) (xs : List UInt8) : Prop := w.ownsRow B 5 1 v xs.length (xs.map bv)
section
variable {w w' : World} {B : Nat} {v : Value} {xs : List UInt8}
theorem BOwn.nil (w : World) (B : Nat) : BOwn w B (.slice none 0 0) [] := World.ownsRow_nil _ _ _ _
theorem BOwn.mono (h : BOwn w B v xs) {B' : Nat} (hb : B' ≤ B) : BOwn w B' v xs := by
  refine ⟨h.1, ?_⟩
  rcases h.2 with h2 | ⟨g, cap, cur, hv, hg, r⟩
  · exact .inl h2
  · exact .inr ⟨g, cap, cur, hv, Nat.le_trans hb hg, r⟩
theorem BOwn.alloc (h : BOwn w B v xs) (o : Obj) : BOwn (w.alloc o) B v xs := World.ownsRow.alloc h o
theorem BOwn.drew (h : BOwn w B v xs) : BOwn w.drew B v xs := h
theorem BOwn.drewN (h : BOwn w B v xs) (n : Nat) : BOwn (w.drewN n) B v xs := h
theorem BOwn.below (h : BOwn w B v xs) (hb : Below w.heap.size w w') : BOwn w' B v xs :=
  World.ownsRow.kept (row := none) h ⟨hb.os, hb.tape, hb.output, hb.size, fun k hk _ => hb.block k hk⟩ (by cases v.ownBlock <;> simp)
theorem BOwn.form' {n : Nat} (h : BOwn w B v xs) (hn : xs.length = n) (hx : 0 < n) : ∃ g c, v = .slice (some ⟨g, 0, none⟩) n c ∧ B ≤ g ∧ g < w.heap.size := by
  subst hn
  rcases h.2 with ⟨_, h0⟩ | ⟨g, cap, cur, hv, hg, hh, hc, hm, _⟩
  · omega
  · exact ⟨g, cap, hv, hg, (Array.getElem?_eq_some_iff.1 hh).1⟩
theorem BOwn.shape (h : BOwn w B v xs) : ∃ A c, v = .slice A xs.length c := by
  rcases h.2 with ⟨h1, h0⟩ | ⟨g, cap, cur, hv, _⟩
  · exact ⟨none, 0, by rw [h1, h0]⟩
  · exact ⟨_, cap, hv⟩
theorem BOwn.len {A : Option Addr} {n c : Nat} (h : BOwn w B (.slice A n c) xs) : n = xs.length := by
  rcases h.2 with ⟨h0, h1⟩ | ⟨g', cap, cur, hv, _⟩
  · simp at h0; omega
  · simp at hv; exact hv.2.1
theorem BOwn.cell {g c n : Nat} (h : BOwn w B (.slice (some ⟨g, 0, none⟩) n c) xs) {j : Nat} (hj : j < xs.length) : w.cell? ⟨g, j, none⟩ = some (.int .u8 ((xs[j]).toNat : Int)) := by
  have hn := h.len
  subst hn
  rw [World.ownsRow.cellAt h j (by omega)]
  simp [hj, bv]
theorem BOwn.free {g c n : Nat} (h : BOwn w B (.slice (some ⟨g, 0, none⟩) n c) xs) (j : Nat) : w.frozen? ⟨g, j, none⟩ = false := by
  have hn := h.len
  subst hn
  exact World.ownsRow.frozenAt h j
theorem BOwn.set {g c n : Nat} (h : BOwn w B (.slice (some ⟨g, 0, none⟩) n c) xs) (j : Nat) (u : UInt8) :
    BOwn (w.setCell ⟨g, j, none⟩ (.int .u8 (u.toNat : Int))) B (.slice (some ⟨g, 0, none⟩) n c) (xs.set j u) ∧ w.grownBy (w.setCell ⟨g, j, none⟩ (.int .u8 (u.toNat : Int))) (some g) := by
  have hn := h.len
  subst hn
  have := World.ownsRow.stored h j (bv u)
  refine ⟨?_, this.2⟩
  have h1 := this.1
  unfold BOwn
  rw [List.length_set, List.map_set]
  exact h1
theorem BOwn.blk (h : BOwn w B v xs) : ∀ k, v.ownBlock = some k → B ≤ k ∧ k < w.heap.size := World.ownsRow.lt h
theorem BOwn.of_own {n : Nat} {ys : List Value} (h : w.ownsRow B 5 1 v n ys) (hn : n = xs.length) (hy : ys = xs.map bv) : BOwn w B v xs := by subst hn hy; exact h
end

/-- append of one byte to a slice of the call's own -/
theorem wpList_pushB {ops : Array Oper} {rest : List Oper} {o : Oper} {a : Act} {Q : Exit → Act → World → Prop} {w : World} (u : UInt8) (s x : Operand) (hgd : o.guard = none)
    (ho : o.op = .call { callee := .builtin .append, args := #[s, x], argTypes := #[22, 22] })
    (B : Nat) (v : Value) (xs : List UInt8) (hs : a.eval s = v) (hown : BOwn w B v xs) (hx : a.eval x = .slice (some ⟨w.heap.size, 0, none⟩) 1 1)
    (hlen : xs.length ≤ 1099511627776) (hB : B ≤ w.heap.size)
    (h : ∀ v' w', BOwn w' B v' (xs ++ [u]) → w.grownBy w' v.ownBlock → (v'.ownBlock = v.ownBlock ∨ ∃ g, v'.ownBlock = some g ∧ w.heap.size ≤ g) → wpList Try.prog ops Q rest (a.put o.dst v') w') :
    wpList Try.prog ops Q (o :: rest) a (w.alloc (.cells #[.int .u8 (u.toNat : Int)] 5)) := by
  obtain ⟨i0, hi, hz0, hz1, hz2⟩ := info_parts bytInfo
  refine wpList_append_own_at _ hgd s x 22 ho B 5 i0 (.int .u8 0) 1 1 Try.underlying22 hi hz0 hz1 hz2 rfl (by decide) v xs.length (xs.map bv) hs (World.ownsRow.alloc hown _)
    ⟨w.heap.size, 0, none⟩ 1 1 [bv u] hx rfl ?_ ?_ ?_ ?_ ?_ ?_
  · intro j y hj
    match j, hj with
    | 0, hj => simp at hj; subst hj; simp [Addr.add, bv]
  · intro y hy; simp at hy; subst hy; rfl
  · unfold maxLen; omega
  · omega
  · simp; omega
  · intro v' w' h1 h2 _ h4
    refine h v' w' ?_ (grown_alloc_left h2) ?_
    · unfold BOwn
      simpa using h1
    · rcases h4 with h4 | h4
      · exact .inl h4
      · exact .inr ⟨_, h4, by simp⟩

theorem ret_sb {a b : ByteArray} {c d : Bool} (h : a = b) (k : c = d) : Ending.returned (.tuple #[.string a, .bool c]) = .returned (.tuple #[.string b, .bool d]) := by rw [h, k]
theorem ret_s {a b : ByteArray} (h : a = b) : Ending.returned (.string a) = .returned (.string b) := by rw [h]
/-- bytes as a string -/
def strOf (l : List UInt8) : ByteArray := ⟨l.toArray⟩
theorem strOf_list (l : List UInt8) : (strOf l).data.toList = l := by simp [strOf]
theorem strOf_size (l : List UInt8) : (strOf l).size = l.length := by simp [strOf, ByteArray.size]
theorem strOf_self (s : ByteArray) : strOf s.data.toList = s := by simp [strOf]

theorem run_str_cells (w : World) (g n c : Nat) (xs : List UInt8) (hn : xs.length = n) (hc : ∀ j (hj : j < xs.length), w.cell? ⟨g, j, none⟩ = some (.int .u8 ((xs[j]).toNat : Int))) :
    (convert 22 9 (.slice (some ⟨g, 0, none⟩) n c)).run Try.prog w = .ok (.string (strOf xs)) w := by
  subst hn
  exact run_convert_bytes_back w 22 9 5 ⟨g, 0, none⟩ c xs Try.underlying22 Try.underlying5 Try.underlying9 (fun j hj => by
    have : (⟨g, 0, none⟩ : Addr).add j = ⟨g, j, none⟩ := by unfold Addr.add; split <;> simp_all
    rw [this]; exact hc j hj)
theorem run_str_nil (w : World) : (convert 22 9 (.slice none 0 0)).run Try.prog w = .ok (.string (strOf [])) w := by
  rw [run_convert_bytes_string w 22 9 5 none 0 0 Try.underlying22 Try.underlying5 Try.underlying9]
  rfl
theorem run_str_own {w : World} {B : Nat} {v : Value} {xs : List UInt8} (h : BOwn w B v xs) : (convert 22 9 v).run Try.prog w = .ok (.string (strOf xs)) w := by
  rcases h.2 with ⟨h1, h0⟩ | ⟨g, cap, cur, hv, _⟩
  · obtain rfl := h1
    obtain rfl : xs = [] := List.eq_nil_of_length_eq_zero h0
    exact run_str_nil w
  · subst hv
    exact run_str_cells w g _ cap xs rfl fun j hj => h.cell hj

/-- the world behind a conversion of a string to bytes -/
def bsWorld (w : World) (s : ByteArray) : World := Lib.bytesWorld w 5 s
def bsCap (w : World) (s : ByteArray) : Nat := grownCap w s.size 0 5
theorem run_bytes (s : ByteArray) (w : World) : (convert 9 22 (.string s)).run Try.prog w = .ok (.slice (some ⟨w.heap.size, 0, none⟩) s.size (bsCap w s)) (bsWorld w s) :=
  Lib.run_convert_string_bytes w 9 22 5 s Try.underlying9 Try.underlying22 Try.underlying5
theorem bsWorld_size (w : World) (s : ByteArray) : (bsWorld w s).heap.size = w.heap.size + 1 := Lib.bytesWorld_size _ _ _
theorem bsWorld_below (w : World) (s : ByteArray) : Below w.heap.size w (bsWorld w s) := by
  refine ⟨?_, ?_, ?_, by rw [bsWorld_size]; omega, fun k hk => Lib.bytesWorld_at_old w _ s k hk⟩ <;>
    simp [bsWorld, Lib.bytesWorld, World.freeze, World.alloc, World.drew, -World.alloc_eq, -World.drew_eq]

/-- bytes that lie in one block from its head, none of them frozen -/
structure BRow (w : World) (B g : Nat) (xs : List UInt8) : Prop where
  from_ : B ≤ g
  lt : g < w.heap.size
  cell : ∀ j (h : j < xs.length), w.cell? ⟨g, j, none⟩ = some (.int .u8 ((xs[j]).toNat : Int))
  free : ∀ j, j < xs.length → w.frozen? ⟨g, j, none⟩ = false
theorem BRow.below {w w' : World} {B g : Nat} {xs : List UInt8} (h : BRow w B g xs) (hb : Below w.heap.size w w') : BRow w' B g xs :=
  ⟨h.from_, Nat.lt_of_lt_of_le h.lt hb.size, fun j hj => (hb.cell (p := ⟨g, j, none⟩) h.lt).trans (h.cell j hj), fun j hj => (hb.frozen (p := ⟨g, j, none⟩) h.lt).trans (h.free j hj)⟩
theorem BRow.drew {w : World} {B g : Nat} {xs : List UInt8} (h : BRow w B g xs) : BRow w.drew B g xs := ⟨h.from_, h.lt, h.cell, h.free⟩
theorem BRow.mono {w : World} {B B' g : Nat} {xs : List UInt8} (h : BRow w B g xs) (hb : B' ≤ B) : BRow w B' g xs := ⟨Nat.le_trans hb h.from_, h.lt, h.cell, h.free⟩
theorem BRow.of_bs (w : World) (s : ByteArray) : BRow (bsWorld w s) w.heap.size w.heap.size s.data.toList := by
  refine ⟨Nat.le_refl _, by rw [bsWorld_size]; omega, fun j hj => ?_, fun j hj => ?_⟩
  · have := Lib.bytesWorld_cell w 5 s j (by simpa using hj)
    rw [List.getD_eq_getElem?_getD, List.getElem?_eq_getElem hj] at this
    exact this
  · unfold bsWorld World.frozen?
    rw [Lib.bytesWorld_at_new]
    have : s.size ≤ (Lib.bytesCells w 5 s).size := by simp [Lib.bytesCells]
    have hs : j < s.size := by simpa using hj
    have : ¬ (Lib.bytesCells w 5 s).size ≤ j := by omega
    simp [this]
theorem BRow.of_own {w : World} {B g n c : Nat} {xs : List UInt8} (h : BOwn w B (.slice (some ⟨g, 0, none⟩) n c) xs) : BRow w B g xs :=
  ⟨(h.blk g rfl).1, (h.blk g rfl).2, fun _ hj => h.cell hj, fun j _ => h.free j⟩
theorem BRow.set {w : World} {B g : Nat} {xs : List UInt8} (h : BRow w B g xs) (j : Nat) (u : UInt8) (hj : j < xs.length) : BRow (w.setCell ⟨g, j, none⟩ (.int .u8 (u.toNat : Int))) B g (xs.set j u) := by
  refine ⟨h.from_, by simpa [World.setCell] using h.lt, fun i hi => ?_, fun i hi => ?_⟩
  · rw [List.length_set] at hi
    by_cases e : j = i
    · subst e
      rw [List.getElem_set_self]
      exact World.cell?_setCell_same w ⟨g, j, none⟩ _ (h.cell j hj)
    · rw [List.getElem_set_ne e]
      rw [World.cell?_setCell_other w ⟨g, j, none⟩ ⟨g, i, none⟩ _ (fun h => e (by injection h))]
      exact h.cell i hi
  · rw [List.length_set] at hi
    rw [World.frozen?_setCell]
    exact h.free i hi
end Go.Proofs.Ytachijliaedndaa

/- TurnPath: U and D exchanged. -/
namespace Go.Proofs.Ytachijliaedndaa
open Go.RowKit
def turnC (c : UInt8) : UInt8 := if c == 85 then 68 else 85
def otherZ (x : Int) : Int := if x = 85 then 68 else 85
theorem turnC_int (c : UInt8) : ((turnC c).toNat : Int) = otherZ (c.toNat : Int) := by
  unfold turnC otherZ
  have : (c == 85) = ((c.toNat : Int) == 85) := by
    rw [Bool.eq_iff_iff]; simp [← UInt8.toNat_inj]; omega
  rw [this]
  by_cases h : (c.toNat : Int) = 85
  · simp [h]
  · rw [if_neg (by simpa using h), if_neg h]; rfl
def turnL (l : List UInt8) : List UInt8 := l.map turnC
theorem turnL_length (l : List UInt8) : (turnL l).length = l.length := by simp [turnL]
/-- the first k turned, behind them what r holds -/
def turnTo (s : ByteArray) (r : List UInt8) (k : Nat) : List UInt8 := (turnL s.data.toList).take k ++ r.drop k
theorem turnTo_length (s : ByteArray) (r : List UInt8) (hr : r.length = s.size) (k : Nat) : (turnTo s r k).length = s.size := by
  simp [turnTo, turnL, hr]; omega
theorem turnTo_full (s : ByteArray) (r : List UInt8) (hr : r.length = s.size) : turnTo s r s.size = turnL s.data.toList := by
  unfold turnTo
  rw [List.take_of_length_le (by simp [turnL]), List.drop_of_length_le (by omega), List.append_nil]
theorem turnTo_set (s : ByteArray) (r : List UInt8) (hr : r.length = s.size) (k : Nat) (hk : k < s.size) : (turnTo s r k).set k (turnC s[k]) = turnTo s r (k + 1) := by
  have hl : s.data.toList.length = s.size := by simp
  have h1 : (turnL s.data.toList).length = s.size := by rw [turnL_length]; exact hl
  have e1 : (turnL s.data.toList).take (k + 1) = (turnL s.data.toList).take k ++ [turnC s[k]] := by
    rw [List.take_succ_eq_append_getElem (by omega)]
    simp [turnL]; rfl
  unfold turnTo
  rw [e1, List.set_append, List.length_take, if_neg (by omega)]
  have e2 : r.drop k = r[k]'(by omega) :: r.drop (k + 1) := List.drop_eq_getElem_cons (by omega)
  rw [e2, show k - min k (turnL s.data.toList).length = 0 by omega, List.set_cons_zero, List.append_assoc]
  rfl
theorem turnTo_at (s : ByteArray) (k : Nat) (hk : k < s.size) : (turnTo s s.data.toList k)[k]? = some s[k] := by
  have hl : s.data.toList.length = s.size := by simp
  have h1 : ((turnL s.data.toList).take k).length = k := by rw [List.length_take, turnL_length, hl]; omega
  unfold turnTo
  rw [List.getElem?_append_right (by omega), h1, Nat.sub_self, List.getElem?_drop, Nat.add_zero, List.getElem?_eq_getElem (by omega)]
  rfl
theorem other_any (x : Int) (w : World) : Calls Try.prog 190 #[.int .u8 x] w fun e w' => e = .returned (.int .u8 (otherZ x)) ∧ w = w' := by
  by_cases h : x = 85
  · subst h
    go_enter Try.func190, Try.ntmps190
    go_wp2
    go_ret
    exact ⟨rfl, rfl⟩
  · have e : otherZ x = 85 := by unfold otherZ; rw [if_neg h]
    rw [e]
    go_enter Try.func190, Try.ntmps190
    go_wp2
    go_ret
    exact ⟨rfl, rfl⟩
def turnS (s : ByteArray) : ByteArray := strOf (turnL s.data.toList)
theorem turnS_size (s : ByteArray) : (turnS s).size = s.size := by unfold turnS; rw [strOf_size, turnL_length]; simp
def turnV (s : ByteArray) : ByteArray := if pathB s then turnS s else strOf []
set_option maxHeartbeats 800000 in
theorem turn_yes (s : ByteArray) (w : World) (hs : s.size ≤ maxLen) (hp : pathB s = true) : Calls Try.prog 60 #[.string s] w (Ret w (.tuple #[.string (turnS s), .bool true])) := by
  have h40 := ((pathB_iff s).1 hp).1
  obtain ⟨i0, hi, hz0, hz1, hz2⟩ := info_parts bytInfo
  go_enter Try.func60, Try.ntmps60
  go_wp2_with (first | (go_at_call 58; refine (isPath_any s _ hs).mono ?_; rintro e w' ⟨rfl, rfl⟩) | (refine wpList_make_full _ rfl (.tmp 10) (.tmp 10) 22 rfl w.heap.size 5 i0 (.int .u8 0) 1 Try.underlying22 hi hz0 hz1 .i64 .i64 _ _ s.size rfl rfl (by omega) (by omega) (by rw [hz2]; omega) (by unfold maxLen; omega) (Nat.le_refl _) ?_; intro w1 hown1 hgrow1))
  have hrow1 : BOwn w1 w.heap.size (.slice (some ⟨w.heap.size, 0, none⟩) s.size s.size) (turnTo s (List.replicate s.size 0) 0) :=
    BOwn.of_own hown1 (by simp [turnTo]) (by rw [madeOne _ rfl]; simp [turnTo, bv])
  have hb1 : Below w.heap.size w w1 := (Below.refl _ _).grown hgrow1 (Nat.le_refl _) (by simp)
  clear hown1 hgrow1
  go_loopw [14] (fun i wr => ∃ k : Nat, k ≤ s.size ∧ i = .int .i64 k ∧ BOwn wr w.heap.size (.slice (some ⟨w.heap.size, 0, none⟩) s.size s.size) (turnTo s (List.replicate s.size 0) k) ∧ Below w.heap.size w wr) (fun i _ => s.size - (intOf i).toNat)
  case atStart => exact ⟨0, Nat.zero_le _, rfl, hrow1, hb1⟩
  case round =>
    obtain ⟨k, hk, rfl, hrow, hb⟩ := hrel
    by_cases hlt : k < s.size
    · have hc := hrow.cell (j := k) (by rw [turnTo_length _ _ (by simp)]; omega)
      have hf := hrow.free k
      have HST := Lib.hid (hrow.set k (turnC s[k]))
      go_wp2_with (go_at_call 190; refine (other_any _ _).mono ?_; rintro e w' ⟨rfl, rfl⟩)
      have hst := HST.out
      rw [turnC_int, turnTo_set _ _ (by simp) k hlt] at hst
      go_roundw
      case rel => exact ⟨k + 1, by omega, by go_num, hst.1, hb.setCell (Nat.le_refl _) _⟩
      case measure => simp [intOf]; omega
    · have HK : Hid (k = s.size) := by unfold Hid; omega
      have hcv := run_str_own hrow
      go_wp2
      go_ret2
      rw [HK.out, turnTo_full _ _ (by simp)]
      exact ⟨rfl, hb⟩
set_option maxHeartbeats 400000 in
theorem turn_ret (s : ByteArray) (w : World) (hs : s.size ≤ maxLen) : Calls Try.prog 60 #[.string s] w (Ret w (.tuple #[.string (turnV s), .bool (pathB s)])) := by
  unfold turnV
  rcases Bool.eq_false_or_eq_true (pathB s) with hp | hp
  · rw [hp, if_pos rfl]; exact turn_yes s w hs hp
  · rw [hp]
    go_enter Try.func60, Try.ntmps60
    go_wp2_with (go_at_call 58; refine (isPath_any s _ hs).mono ?_; rintro e w' ⟨rfl, rfl⟩)
    go_ret2
    exact ⟨rfl, Below.refl _ _⟩
theorem other_yes {x : Int} (h : (x == 85) = true) : otherZ x = 68 := by unfold otherZ; rw [if_pos (by simpa using h)]
theorem other_no {x : Int} (h : (x == 85) = false) : otherZ x = 85 := by unfold otherZ; rw [if_neg (by simpa using h)]
set_option maxHeartbeats 800000 in
theorem paTurn_ret (s : ByteArray) (w : World) (h40 : s.size ≤ 40) : Calls Try.prog 146 #[.string s] w (Ret w (.string (turnS s))) := by
  have hby := run_bytes s
  go_enter Try.func146, Try.ntmps146
  go_wp2
  have hrow1 := BRow.of_bs w s
  have hb1 := bsWorld_below w s
  clear hby
  generalize bsWorld w s = w1 at *
  generalize bsCap w s = c1 at *
  go_loopw [10] (fun i wr => ∃ k : Nat, k ≤ s.size ∧ i = .int .i64 k ∧ BRow wr w.heap.size w.heap.size (turnTo s s.data.toList k) ∧ Below w.heap.size w wr) (fun i _ => s.size - (intOf i).toNat)
  case atStart => exact ⟨0, Nat.zero_le _, rfl, by simpa [turnTo] using hrow1, hb1⟩
  case round =>
    obtain ⟨k, hk, rfl, hrow, hb⟩ := hrel
    have htl := turnTo_length s s.data.toList (by simp) k
    by_cases hlt : k < s.size
    · have hc := hrow.cell k (by omega)
      rw [(List.getElem_eq_iff (by omega)).2 (turnTo_at s k hlt)] at hc
      have hf := hrow.free k (by omega)
      have HST := Lib.hid (hrow.set k (turnC s[k]) (by omega))
      rw [turnTo_set _ _ (by simp) k hlt, turnC_int] at HST
      go_wp2
      all_goals
        have hz : otherZ (s[k].toNat : Int) = _ := (by first | exact other_yes (by assumption) | exact other_no (by assumption))
        have hst := HST
        rw [hz] at hst
        go_roundw
        case rel => exact ⟨k + 1, by omega, by go_num, hst, hb.setCell (Nat.le_refl _) _⟩
        case measure => simp [intOf]; omega
    · have HK : Hid (k = s.size) := by unfold Hid; omega
      have hcv := run_str_cells wr w.heap.size s.size c1 _ htl hrow.cell
      go_wp2
      go_ret
      rw [HK.out, turnTo_full _ _ (by simp)]
      exact ⟨rfl, hb⟩
end Go.Proofs.Ytachijliaedndaa
