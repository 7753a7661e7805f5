/- Pack 26 of what FnExactOrderedOfRank needs: RacL, Bytes. -/
import Derived.Test.YtmfcknlpbliehaaKFnExactOrderedOfRank25
import Derived.Laws.CopyOwn
import Derived.Laws.Tables
import Derived.Laws.IdiomStrings
import Derived.Lib.ConvBytes
/- raceTo: the race with a result. -/
namespace Go.Proofs.Ytmfcknlpbliehaa
open Go.RowKit
set_option linter.unusedVariables false
def rr (a b c d : Nat) : Nat → Nat | 0 => a | 1 => b | 2 => c | _ => d
theorem rr_sm {a b c d : Nat} (h1 : b ≤ a) (h2 : c ≤ b) (h3 : d ≤ c) (h : a + b + c + d ≤ 16) : sm (rr a b c d) := fun j hj => by
  have : j = 0 ∨ j = 1 ∨ j = 2 ∨ j = 3 := by omega
  rcases this with e | e | e | e <;> subst e <;> simp [rr] <;> omega
theorem rr_tot {a b c d : Nat} (h : a + b + c + d ≤ 16) : tot (rr a b c d) ≤ 16 := h
theorem intSz9 : (Try.prog.info? 3).map (fun i => i.size) = some 1 := by kernel_rfl
theorem stSz : (Try.prog.info? 32).map (·.size) = some 4 := by kernel_rfl
theorem raceSz : (Try.prog.info? 35).map (·.size) = some 5 := by kernel_rfl
theorem mapW_setRow {w : World} {mb g : Nat} {V : (Nat → Nat) → Nat} (h : MapW w mb V) (cs : Array Value) (hne : mb ≠ g) : MapW (w.setRow g cs) mb V := by
  obtain ⟨es, cl, h1, h2, h4⟩ := h
  refine ⟨es, cl, ?_, h2, h4⟩
  rw [← h1]
  exact setRow_other w g mb cs hne
set_option maxRecDepth 100000 in
set_option maxHeartbeats 4000000 in
theorem raceTo_yes (v : Value) (a b c d : Nat) (w : World) (h : RInts w v (q4 a b c d)) (h1 : b ≤ a) (h2 : c ≤ b) (h3 : d ≤ c) (h16 : a + b + c + d ≤ 16) :
    Calls Try.prog 15 #[v] w fun e w' => ∃ mb, e = .returned (.tuple #[raceV (rr a b c d) mb, .int .i64 (coV (q4 a b c d)), .bool true]) ∧ MapW w' mb (W (rr a b c d)) ∧ w.heap.size ≤ mb ∧ Below w.heap.size w w' := by
  have hr : resB (q4 a b c d) = true := (resB_iff _).2 ⟨a, b, c, d, rfl, h1, h2, h3, h16⟩
  have hco : coW (q4 a b c d) = coV (q4 a b c d) := by unfold coW; rw [if_pos hr]
  obtain ⟨g, o, cc, rfl, hg, hcells⟩ := h.cells (by simp [q4])
  have H := Lib.hid h
  have HC : Hid (∀ w1, Below w.heap.size w w1 → Calls Try.prog 21 #[.slice (some ⟨g, o, none⟩) 4 cc] w1 fun e w' => e = .returned (.tuple #[.int .i64 (coV (q4 a b c d)), .bool true]) ∧ Below w1.heap.size w1 w') := Lib.hid fun w1 hb => by
    have := countOrd_ret (.slice (some ⟨g, o, none⟩) 4 cc) (q4 a b c d) w1 (H.out.below hb) (by simp [q4])
    rw [hco, hr] at this
    exact this
  have HSRC : Hid (∀ w1, Below w.heap.size w w1 → ∀ j v, ([.int .i64 (a : Int), .int .i64 (b : Int), .int .i64 (c : Int), .int .i64 (d : Int)] : List Value)[j]? = some v → w1.cell? ((⟨g, o, none⟩ : Addr).add j) = some v) := Lib.hid fun w1 hb j v hj => by
    have hj4 : j < 4 := by
      rcases Nat.lt_or_ge j 4 with h | h
      · exact h
      · rw [List.getElem?_eq_none (by simpa using h)] at hj; cases hj
    have hc := hcells j (by simp [q4]; omega)
    have := (hb.cell (p := ⟨g, o + j, none⟩) hg).trans hc
    have hjj : j = 0 ∨ j = 1 ∨ j = 2 ∨ j = 3 := by omega
    rcases hjj with e | e | e | e <;> subst e <;> simp at hj <;> subst hj <;> exact this
  have HN : Hid (∀ w1, Calls Try.prog 22 #[.agg #[.int .i64 (a : Int), .int .i64 (b : Int), .int .i64 (c : Int), .int .i64 (d : Int)]] w1 fun e w' => ∃ mb, e = .returned (.agg #[.int .i64 (a : Int), .int .i64 (b : Int), .int .i64 (c : Int), .int .i64 (d : Int), .map (some mb)]) ∧ MapW w' mb (W (rr a b c d)) ∧ w1.heap.size ≤ mb ∧ Below w1.heap.size w1 w') := Lib.hid fun w1 => newRace_any (rr a b c d) w1
  generalize hQ : coV (q4 a b c d) = Q at *
  rw [show (q4 a b c d).length = 4 from rfl]
  clear h hcells hco hr
  go_enter Try.func15, Try.ntmps15
  go_wp2_with (first
    | (go_at_call 21; refine (HC.out _ ((Below.refl _ _).alloc (Nat.le_refl _) _)).mono ?_; rintro e w1 ⟨rfl, hb1⟩
       have HB1 : Hid (Below w.heap.size w w1) := Lib.hid (((Below.refl _ _).alloc (Nat.le_refl _) _).trans (hb1.mono (by simp)))
       have hbx := hb1.block w.heap.size (by simp)
       rw [show (w.alloc (.cells #[.int .i64 0, .int .i64 0, .int .i64 0, .int .i64 0, .map none] 35)).heap[w.heap.size]? = some (.cells #[.int .i64 0, .int .i64 0, .int .i64 0, .int .i64 0, .map none] 35 (0, 0)) from heap_alloc_new _ _] at hbx
       have HBX := Lib.hid hbx
       have hsz1 := hb1.size
       simp at hsz1
       have HSZ1 : Hid (w.heap.size + 1 ≤ w1.heap.size) := Lib.hid hsz1
       have HG0 : Hid ((w1.alloc (.cells #[.int .i64 0, .int .i64 0, .int .i64 0, .int .i64 0] 32)).heap[w1.heap.size]? = some (.cells ([.int .i64 0, .int .i64 0, .int .i64 0, .int .i64 0] : List Value).toArray 32 (0, 0))) := Lib.hid (heap_alloc_new w1 _)
       have HB2 : Hid (Below w1.heap.size w1 (w1.alloc (.cells #[.int .i64 0, .int .i64 0, .int .i64 0, .int .i64 0] 32))) := Lib.hid ((Below.refl _ _).alloc (Nat.le_refl _) _)
       have HS2 := Lib.hid (HSRC.out (w1.alloc (.cells #[.int .i64 0, .int .i64 0, .int .i64 0, .int .i64 0] 32)) (HB1.out.alloc HB1.out.size _))
       clear hb1 hbx hsz1 HC HSRC)
    | (refine wpList_copy_splice rfl (.tmp 16) (.tmp 17) 22 22 rfl 3 Try.underlying22 intSz9 _ _ 4 4 4 _ rfl rfl w1.heap.size 0 [.int .i64 0, .int .i64 0, .int .i64 0, .int .i64 0] 32 HG0.out [.int .i64 (a : Int), .int .i64 (b : Int), .int .i64 (c : Int), .int .i64 (d : Int)] (by rfl) (fun _ => ⟨rfl, ⟨g, o, none⟩, rfl, HS2.out⟩) (by simp) (by simp [Value.oneCell']) w1.heap.size w1 HB2.out (Nat.le_refl _) ?_; intro w2 HG2 hB2
       have HH2 : Hid (w2.heap[w1.heap.size]? = some (.cells ([.int .i64 (a : Int), .int .i64 (b : Int), .int .i64 (c : Int), .int .i64 (d : Int)] : List Value).toArray 32 (0, 0))) := Lib.hid HG2.out
       have HZ2 : Hid (w1.heap.size ≤ w2.heap.size) := Lib.hid hB2.size
       have HBX2 : Hid (w2.heap[w.heap.size]? = some (.cells #[.int .i64 0, .int .i64 0, .int .i64 0, .int .i64 0, .map none] 35 (0, 0))) := Lib.hid ((hB2.block _ (by have := HSZ1.out; omega)).trans HBX.out)
       have HB02 : Hid (Below w.heap.size w w2) := Lib.hid (HB1.out.trans (hB2.mono (by have := HSZ1.out; omega)))
       clear HG2 HG0 HS2 HB2 hB2 HBX)
    | (refine wpList_load_row rfl 32 (.tmp 7) rfl w1.heap.size rfl 32 #[.int .i64 (a : Int), .int .i64 (b : Int), .int .i64 (c : Int), .int .i64 (d : Int)] (0, 0) _ HH2.out Try.underlying32 rfl stSz ?_)
    | (go_at_call 22; refine (HN.out _).mono ?_; rintro e w3 ⟨mb, rfl, hm, hmb, hb3⟩
       have HM3 := Lib.hid hm
       have HMB : Hid (w.heap.size < mb) := Lib.hid (by have := HSZ1.out; have := HZ2.out; omega)
       have HBX3 : Hid (w3.heap[w.heap.size]? = some (.cells #[.int .i64 0, .int .i64 0, .int .i64 0, .int .i64 0, .map none] 35 (0, 0))) := Lib.hid ((hb3.block _ (by have := HSZ1.out; have := HZ2.out; omega)).trans HBX2.out)
       have HB3 : Hid (Below w.heap.size w w3) := Lib.hid (HB02.out.trans (hb3.mono (by have := HSZ1.out; have := HZ2.out; omega)))
       clear hm hmb hb3 HH2 HBX2 HB02)
    | (refine wpList_store_row rfl 35 (.tmp 2) (.tmp 20) rfl w.heap.size #[.int .i64 (a : Int), .int .i64 (b : Int), .int .i64 (c : Int), .int .i64 (d : Int), .map (some mb)] rfl rfl 35 _ HBX3.out raceSz rfl (by simp [Value.oneCell']) ?_
       have HW4 : Hid (((w3.setRow w.heap.size #[.int .i64 (a : Int), .int .i64 (b : Int), .int .i64 (c : Int), .int .i64 (d : Int), .map (some mb)]).heap[w.heap.size]? = some (.cells #[.int .i64 (a : Int), .int .i64 (b : Int), .int .i64 (c : Int), .int .i64 (d : Int), .map (some mb)] 35 (0, 0))) ∧ MapW (w3.setRow w.heap.size #[.int .i64 (a : Int), .int .i64 (b : Int), .int .i64 (c : Int), .int .i64 (d : Int), .map (some mb)]) mb (W (rr a b c d)) ∧ Below w.heap.size w (w3.setRow w.heap.size #[.int .i64 (a : Int), .int .i64 (b : Int), .int .i64 (c : Int), .int .i64 (d : Int), .map (some mb)])) := Lib.hid ⟨setRow_heap _ _ _ _ _ _ HBX3.out, mapW_setRow HM3.out _ (by have := HMB.out; omega), below_setRow HB3.out (Nat.le_refl _) _⟩
       clear HM3 HBX3 HB3
       generalize w3.setRow w.heap.size #[.int .i64 (a : Int), .int .i64 (b : Int), .int .i64 (c : Int), .int .i64 (d : Int), .map (some mb)] = w4 at *))
  obtain ⟨hh, hm4, hb4⟩ := HW4.out
  have z0 : w4.cell? ⟨w.heap.size, 0, none⟩ = some (.int .i64 (a : Int)) := by simp [World.cell?, hh]
  have z1 : w4.cell? ⟨w.heap.size, 1, none⟩ = some (.int .i64 (b : Int)) := by simp [World.cell?, hh]
  have z2 : w4.cell? ⟨w.heap.size, 2, none⟩ = some (.int .i64 (c : Int)) := by simp [World.cell?, hh]
  have z3 : w4.cell? ⟨w.heap.size, 3, none⟩ = some (.int .i64 (d : Int)) := by simp [World.cell?, hh]
  have z4 : w4.cell? ⟨w.heap.size, 4, none⟩ = some (.map (some mb)) := by simp [World.cell?, hh]
  refine bodyPost_ret (v := .tuple #[raceV (rr a b c d) mb, .int .i64 Q, .bool true]) (by unfold raceV; simp [results, Try.results15, go_sem, z0, z1, z2, z3, z4]; exact ⟨rfl, rfl, rfl, rfl⟩) rfl ⟨mb, rfl, hm4, Nat.le_of_lt HMB.out, hb4⟩
set_option maxRecDepth 100000 in
set_option maxHeartbeats 4000000 in
theorem raceTo_no (v : Value) (xs : List Int) (w : World) (h : RInts w v xs) (hl : xs.length ≤ 1048576) (hr : resB xs = false) :
    Calls Try.prog 15 #[v] w fun e w' => e = .returned (.tuple #[.agg #[.int .i64 0, .int .i64 0, .int .i64 0, .int .i64 0, .map none], .int .i64 0, .bool false]) ∧ Below w.heap.size w w' := by
  have hco : coW xs = 0 := by unfold coW; rw [if_neg (by rw [hr]; decide)]
  have H := Lib.hid h
  have HC : Hid (∀ w1, Below w.heap.size w w1 → Calls Try.prog 21 #[v] w1 fun e w' => e = .returned (.tuple #[.int .i64 0, .bool false]) ∧ Below w1.heap.size w1 w') := Lib.hid fun w1 hb => by
    have := countOrd_ret v xs w1 (H.out.below hb) hl
    rw [hco, hr] at this
    exact this
  obtain ⟨A, c, rfl⟩ := h.shape
  clear h hco hr
  go_enter Try.func15, Try.ntmps15
  go_wp2_with (first
    | (go_at_call 21; refine (HC.out _ ((Below.refl _ _).alloc (Nat.le_refl _) _)).mono ?_; rintro e w1 ⟨rfl, hb1⟩
       have HB1 : Hid (Below w.heap.size w w1) := Lib.hid (((Below.refl _ _).alloc (Nat.le_refl _) _).trans (hb1.mono (by simp)))
       have hbx := hb1.block w.heap.size (by simp)
       rw [show (w.alloc (.cells #[.int .i64 0, .int .i64 0, .int .i64 0, .int .i64 0, .map none] 35)).heap[w.heap.size]? = some (.cells #[.int .i64 0, .int .i64 0, .int .i64 0, .int .i64 0, .map none] 35 (0, 0)) from heap_alloc_new _ _] at hbx
       have HBX := Lib.hid hbx
       clear hb1 hbx HC)
    | (refine wpList_store_row rfl 35 (.tmp 2) (.tmp 15) rfl w.heap.size #[.int .i64 0, .int .i64 0, .int .i64 0, .int .i64 0, .map none] rfl rfl 35 _ HBX.out raceSz rfl (by simp [Value.oneCell']) ?_
       have HW4 : Hid (((w1.setRow w.heap.size #[.int .i64 0, .int .i64 0, .int .i64 0, .int .i64 0, .map none]).heap[w.heap.size]? = some (.cells #[.int .i64 0, .int .i64 0, .int .i64 0, .int .i64 0, .map none] 35 (0, 0))) ∧ Below w.heap.size w (w1.setRow w.heap.size #[.int .i64 0, .int .i64 0, .int .i64 0, .int .i64 0, .map none])) := Lib.hid ⟨setRow_heap _ _ _ _ _ _ HBX.out, below_setRow HB1.out (Nat.le_refl _) _⟩
       clear HBX HB1
       generalize w1.setRow w.heap.size #[.int .i64 0, .int .i64 0, .int .i64 0, .int .i64 0, .map none] = w4 at *))
  obtain ⟨hh, hb4⟩ := HW4.out
  have z0 : w4.cell? ⟨w.heap.size, 0, none⟩ = some (.int .i64 0) := by simp [World.cell?, hh]
  have z1 : w4.cell? ⟨w.heap.size, 1, none⟩ = some (.int .i64 0) := by simp [World.cell?, hh]
  have z2 : w4.cell? ⟨w.heap.size, 2, none⟩ = some (.int .i64 0) := by simp [World.cell?, hh]
  have z3 : w4.cell? ⟨w.heap.size, 3, none⟩ = some (.int .i64 0) := by simp [World.cell?, hh]
  have z4 : w4.cell? ⟨w.heap.size, 4, none⟩ = some (.map none) := by simp [World.cell?, hh]
  refine bodyPost_ret (v := .tuple #[.agg #[.int .i64 0, .int .i64 0, .int .i64 0, .int .i64 0, .map none], .int .i64 0, .bool false]) (by simp [results, Try.results15, go_sem, z0, z1, z2, z3, z4]) rfl ⟨rfl, hb4⟩
end Go.Proofs.Ytmfcknlpbliehaa

/- Words for memory: bytes that the call owns; the two conversions between bytes and strings. -/
namespace Go.Proofs.Ytmfcknlpbliehaa
open Go.RowKit

theorem bytInfo : (Try.prog.info? 5).map (fun i => (i.zero, i.size, i.bytes)) = some (some (.int .u8 0), 1, 1) := by kernel_rfl
def bv (c : UInt8) : Value := .int .u8 (c.toNat : Int)
/-- the slice value v owns the bytes xs, in a block from B on -/
def BOwn (w : World) (B : Nat) (v : Value) (xs : List UInt8) : Prop := w.ownsRow B 5 1 v xs.length (xs.map bv)
section
variable {w w' : World} {B : Nat} {v : Value} {xs : List UInt8}
theorem BOwn.nil (w : World) (B : Nat) : BOwn w B (.slice none 0 0) [] := World.ownsRow_nil _ _ _ _
theorem BOwn.mono (h : BOwn w B v xs) {B' : Nat} (hb : B' ≤ B) : BOwn w B' v xs := by
  refine ⟨h.1, ?_⟩
  rcases h.2 with h2 | ⟨g, cap, cur, hv, hg, r⟩
  · exact .inl h2
  · exact .inr ⟨g, cap, cur, hv, Nat.le_trans hb hg, r⟩
theorem BOwn.alloc (h : BOwn w B v xs) (o : Obj) : BOwn (w.alloc o) B v xs := World.ownsRow.alloc h o
theorem BOwn.drew (h : BOwn w B v xs) : BOwn w.drew B v xs := h
theorem BOwn.drewN (h : BOwn w B v xs) (n : Nat) : BOwn (w.drewN n) B v xs := h
theorem BOwn.below (h : BOwn w B v xs) (hb : Below w.heap.size w w') : BOwn w' B v xs :=
  World.ownsRow.kept (row := none) h ⟨hb.os, hb.tape, hb.output, hb.size, fun k hk _ => hb.block k hk⟩ (by cases v.ownBlock <;> simp)
theorem BOwn.form' {n : Nat} (h : BOwn w B v xs) (hn : xs.length = n) (hx : 0 < n) : ∃ g c, v = .slice (some ⟨g, 0, none⟩) n c ∧ B ≤ g ∧ g < w.heap.size := by
  subst hn
  rcases h.2 with ⟨_, h0⟩ | ⟨g, cap, cur, hv, hg, hh, hc, hm, _⟩
  · omega
  · exact ⟨g, cap, hv, hg, (Array.getElem?_eq_some_iff.1 hh).1⟩
theorem BOwn.shape (h : BOwn w B v xs) : ∃ A c, v = .slice A xs.length c := by
  rcases h.2 with ⟨h1, h0⟩ | ⟨g, cap, cur, hv, _⟩
  · exact ⟨none, 0, by rw [h1, h0]⟩
  · exact ⟨_, cap, hv⟩
theorem BOwn.len {A : Option Addr} {n c : Nat} (h : BOwn w B (.slice A n c) xs) : n = xs.length := by
  rcases h.2 with ⟨h0, h1⟩ | ⟨g', cap, cur, hv, _⟩
  · simp at h0; omega
  · simp at hv; exact hv.2.1
theorem BOwn.cell {g c n : Nat} (h : BOwn w B (.slice (some ⟨g, 0, none⟩) n c) xs) {j : Nat} (hj : j < xs.length) : w.cell? ⟨g, j, none⟩ = some (.int .u8 ((xs[j]).toNat : Int)) := by
  have hn := h.len
  subst hn
  rw [World.ownsRow.cellAt h j (by omega)]
  simp [hj, bv]
theorem BOwn.free {g c n : Nat} (h : BOwn w B (.slice (some ⟨g, 0, none⟩) n c) xs) (j : Nat) : w.frozen? ⟨g, j, none⟩ = false := by
  have hn := h.len
  subst hn
  exact World.ownsRow.frozenAt h j
theorem BOwn.set {g c n : Nat} (h : BOwn w B (.slice (some ⟨g, 0, none⟩) n c) xs) (j : Nat) (u : UInt8) :
    BOwn (w.setCell ⟨g, j, none⟩ (.int .u8 (u.toNat : Int))) B (.slice (some ⟨g, 0, none⟩) n c) (xs.set j u) ∧ w.grownBy (w.setCell ⟨g, j, none⟩ (.int .u8 (u.toNat : Int))) (some g) := by
  have hn := h.len
  subst hn
  have := World.ownsRow.stored h j (bv u)
  refine ⟨?_, this.2⟩
  have h1 := this.1
  unfold BOwn
  rw [List.length_set, List.map_set]
  exact h1
theorem BOwn.blk (h : BOwn w B v xs) : ∀ k, v.ownBlock = some k → B ≤ k ∧ k < w.heap.size := World.ownsRow.lt h
theorem BOwn.of_own {n : Nat} {ys : List Value} (h : w.ownsRow B 5 1 v n ys) (hn : n = xs.length) (hy : ys = xs.map bv) : BOwn w B v xs := by subst hn hy; exact h
end

/-- append of one byte to a slice of the call's own -/
theorem wpList_pushB {ops : Array Oper} {rest : List Oper} {o : Oper} {a : Act} {Q : Exit → Act → World → Prop} {w : World} (u : UInt8) (s x : Operand) (hgd : o.guard = none)
    (ho : o.op = .call { callee := .builtin .append, args := #[s, x], argTypes := #[46, 46] })
    (B : Nat) (v : Value) (xs : List UInt8) (hs : a.eval s = v) (hown : BOwn w B v xs) (hx : a.eval x = .slice (some ⟨w.heap.size, 0, none⟩) 1 1)
    (hlen : xs.length ≤ 1099511627776) (hB : B ≤ w.heap.size)
    (h : ∀ v' w', BOwn w' B v' (xs ++ [u]) → w.grownBy w' v.ownBlock → (v'.ownBlock = v.ownBlock ∨ ∃ g, v'.ownBlock = some g ∧ w.heap.size ≤ g) → wpList Try.prog ops Q rest (a.put o.dst v') w') :
    wpList Try.prog ops Q (o :: rest) a (w.alloc (.cells #[.int .u8 (u.toNat : Int)] 5)) := by
  obtain ⟨i0, hi, hz0, hz1, hz2⟩ := info_parts bytInfo
  refine wpList_append_own_at _ hgd s x 46 ho B 5 i0 (.int .u8 0) 1 1 Try.underlying46 hi hz0 hz1 hz2 rfl (by decide) v xs.length (xs.map bv) hs (World.ownsRow.alloc hown _)
    ⟨w.heap.size, 0, none⟩ 1 1 [bv u] hx rfl ?_ ?_ ?_ ?_ ?_ ?_
  · intro j y hj
    match j, hj with
    | 0, hj => simp at hj; subst hj; simp [Addr.add, bv]
  · intro y hy; simp at hy; subst hy; rfl
  · unfold maxLen; omega
  · omega
  · simp; omega
  · intro v' w' h1 h2 _ h4
    refine h v' w' ?_ (grown_alloc_left h2) ?_
    · unfold BOwn
      simpa using h1
    · rcases h4 with h4 | h4
      · exact .inl h4
      · exact .inr ⟨_, h4, by simp⟩

theorem ret_sb {a b : ByteArray} {c d : Bool} (h : a = b) (k : c = d) : Ending.returned (.tuple #[.string a, .bool c]) = .returned (.tuple #[.string b, .bool d]) := by rw [h, k]
theorem ret_s {a b : ByteArray} (h : a = b) : Ending.returned (.string a) = .returned (.string b) := by rw [h]
/-- bytes as a string -/
def strOf (l : List UInt8) : ByteArray := ⟨l.toArray⟩
theorem strOf_list (l : List UInt8) : (strOf l).data.toList = l := by simp [strOf]
theorem strOf_size (l : List UInt8) : (strOf l).size = l.length := by simp [strOf, ByteArray.size]
theorem strOf_self (s : ByteArray) : strOf s.data.toList = s := by simp [strOf]

theorem run_str_cells (w : World) (g n c : Nat) (xs : List UInt8) (hn : xs.length = n) (hc : ∀ j (hj : j < xs.length), w.cell? ⟨g, j, none⟩ = some (.int .u8 ((xs[j]).toNat : Int))) :
    (convert 46 9 (.slice (some ⟨g, 0, none⟩) n c)).run Try.prog w = .ok (.string (strOf xs)) w := by
  subst hn
  exact run_convert_bytes_back w 46 9 5 ⟨g, 0, none⟩ c xs Try.underlying46 Try.underlying5 Try.underlying9 (fun j hj => by
    have : (⟨g, 0, none⟩ : Addr).add j = ⟨g, j, none⟩ := by unfold Addr.add; split <;> simp_all
    rw [this]; exact hc j hj)
theorem run_str_nil (w : World) : (convert 46 9 (.slice none 0 0)).run Try.prog w = .ok (.string (strOf [])) w := by
  rw [run_convert_bytes_string w 46 9 5 none 0 0 Try.underlying46 Try.underlying5 Try.underlying9]
  rfl
theorem run_str_own {w : World} {B : Nat} {v : Value} {xs : List UInt8} (h : BOwn w B v xs) : (convert 46 9 v).run Try.prog w = .ok (.string (strOf xs)) w := by
  rcases h.2 with ⟨h1, h0⟩ | ⟨g, cap, cur, hv, _⟩
  · obtain rfl := h1
    obtain rfl : xs = [] := List.eq_nil_of_length_eq_zero h0
    exact run_str_nil w
  · subst hv
    exact run_str_cells w g _ cap xs rfl fun j hj => h.cell hj

/-- the world behind a conversion of a string to bytes -/
def bsWorld (w : World) (s : ByteArray) : World := Lib.bytesWorld w 5 s
def bsCap (w : World) (s : ByteArray) : Nat := grownCap w s.size 0 5
theorem run_bytes (s : ByteArray) (w : World) : (convert 9 46 (.string s)).run Try.prog w = .ok (.slice (some ⟨w.heap.size, 0, none⟩) s.size (bsCap w s)) (bsWorld w s) :=
  Lib.run_convert_string_bytes w 9 46 5 s Try.underlying9 Try.underlying46 Try.underlying5
theorem bsWorld_size (w : World) (s : ByteArray) : (bsWorld w s).heap.size = w.heap.size + 1 := Lib.bytesWorld_size _ _ _
theorem bsWorld_below (w : World) (s : ByteArray) : Below w.heap.size w (bsWorld w s) := by
  refine ⟨?_, ?_, ?_, by rw [bsWorld_size]; omega, fun k hk => Lib.bytesWorld_at_old w _ s k hk⟩ <;>
    simp [bsWorld, Lib.bytesWorld, World.freeze, World.alloc, World.drew, -World.alloc_eq, -World.drew_eq]

/-- bytes that lie in one block from its head, none of them frozen -/
structure BRow (w : World) (B g : Nat) (xs : List UInt8) : Prop where
  from_ : B ≤ g
  lt : g < w.heap.size
  cell : ∀ j (h : j < xs.length), w.cell? ⟨g, j, none⟩ = some (.int .u8 ((xs[j]).toNat : Int))
  free : ∀ j, j < xs.length → w.frozen? ⟨g, j, none⟩ = false
theorem BRow.below {w w' : World} {B g : Nat} {xs : List UInt8} (h : BRow w B g xs) (hb : Below w.heap.size w w') : BRow w' B g xs :=
  ⟨h.from_, Nat.lt_of_lt_of_le h.lt hb.size, fun j hj => (hb.cell (p := ⟨g, j, none⟩) h.lt).trans (h.cell j hj), fun j hj => (hb.frozen (p := ⟨g, j, none⟩) h.lt).trans (h.free j hj)⟩
theorem BRow.drew {w : World} {B g : Nat} {xs : List UInt8} (h : BRow w B g xs) : BRow w.drew B g xs := ⟨h.from_, h.lt, h.cell, h.free⟩
theorem BRow.mono {w : World} {B B' g : Nat} {xs : List UInt8} (h : BRow w B g xs) (hb : B' ≤ B) : BRow w B' g xs := ⟨Nat.le_trans hb h.from_, h.lt, h.cell, h.free⟩
theorem BRow.of_bs (w : World) (s : ByteArray) : BRow (bsWorld w s) w.heap.size w.heap.size s.data.toList := by
  refine ⟨Nat.le_refl _, by rw [bsWorld_size]; omega, fun j hj => ?_, fun j hj => ?_⟩
  · have := Lib.bytesWorld_cell w 5 s j (by simpa using hj)
    rw [List.getD_eq_getElem?_getD, List.getElem?_eq_getElem hj] at this
    exact this
  · unfold bsWorld World.frozen?
    rw [Lib.bytesWorld_at_new]
    have : s.size ≤ (Lib.bytesCells w 5 s).size := by simp [Lib.bytesCells]
    have hs : j < s.size := by simpa using hj
    have : ¬ (Lib.bytesCells w 5 s).size ≤ j := by omega
    simp [this]
theorem BRow.of_own {w : World} {B g n c : Nat} {xs : List UInt8} (h : BOwn w B (.slice (some ⟨g, 0, none⟩) n c) xs) : BRow w B g xs :=
  ⟨(h.blk g rfl).1, (h.blk g rfl).2, fun _ hj => h.cell hj, fun j _ => h.free j⟩
theorem BRow.set {w : World} {B g : Nat} {xs : List UInt8} (h : BRow w B g xs) (j : Nat) (u : UInt8) (hj : j < xs.length) : BRow (w.setCell ⟨g, j, none⟩ (.int .u8 (u.toNat : Int))) B g (xs.set j u) := by
  refine ⟨h.from_, by simpa [World.setCell] using h.lt, fun i hi => ?_, fun i hi => ?_⟩
  · rw [List.length_set] at hi
    by_cases e : j = i
    · subst e
      rw [List.getElem_set_self]
      exact World.cell?_setCell_same w ⟨g, j, none⟩ _ (h.cell j hj)
    · rw [List.getElem_set_ne e]
      rw [World.cell?_setCell_other w ⟨g, j, none⟩ ⟨g, i, none⟩ _ (fun h => e (by injection h))]
      exact h.cell i hi
  · rw [List.length_set] at hi
    rw [World.frozen?_setCell]
    exact h.free i hi
end Go.Proofs.Ytmfcknlpbliehaa
