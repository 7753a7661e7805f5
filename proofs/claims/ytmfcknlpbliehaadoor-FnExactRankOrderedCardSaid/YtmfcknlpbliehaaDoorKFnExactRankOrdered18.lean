/- Pack 18 of what FnExactRankOrdered needs: VoD3, Bytes. -/
import Derived.Test.YtmfcknlpbliehaaDoorKFnExactRankOrdered17
import Derived.Laws.IdiomStrings
import Derived.Lib.ConvBytes
/- letIn: votes come in up to the first one that would overtake. -/
namespace Go.Proofs.YtmfcknlpbliehaaDoor
open Go.RowKit
set_option linter.unusedVariables false
def vp (s : ByteArray) (k : Nat) : Nat → Nat := fun c => vc s c k
theorem vp_up (s : ByteArray) (k : Nat) : up (vp s k) (cd s k) = vp s (k + 1) := by
  funext c
  unfold up vp
  rw [vc]
  by_cases h : c = cd s k
  · rw [if_pos h, if_pos h.symm]
  · rw [if_neg h, if_neg (fun e => h e.symm)]; rfl
theorem tot_vp {s : ByteArray} (hv : votB s = true) {k : Nat} (hk : k ≤ s.size) : tot (vp s k) = k := vcS hv hk
theorem ov_iff {s : ByteArray} (hv : votB s = true) {k : Nat} (hk : k < s.size) (h0 : foTo s k = 0) : ovB (vp s k) (cd s k) = !(faB s (k + 1)) := by
  have h := fa_over (votB_lt hv k hk) (fo_fall h0)
  unfold ovB vp
  cases hf : faB s (k + 1) with
  | false =>
    have := h.1 hf
    rw [decide_eq_true this.1, decide_eq_true this.2]; rfl
  | true =>
    rw [hf] at h
    simp at h
    by_cases e : 0 < cd s k
    · rw [decide_eq_true e, decide_eq_false (h e)]; rfl
    · rw [decide_eq_false e]; rfl
/-- what letIn hands back -/
def LetIn (s : ByteArray) (w : World) (e : Ending) (w' : World) : Prop :=
  ∃ p : Nat → Nat, e = .returned (.tuple #[stA p, .int .i64 ((foTo s s.size : Nat) : Int)]) ∧ (foTo s s.size = 0 → p = vp s s.size) ∧ Below w.heap.size w w'
/-- what stands while votes come in -/
structure LI (s : ByteArray) (k : Nat) (w W : World) : Prop where
  box : B4 w.heap.size (vp s k) W
  stop : W.cell? ⟨w.heap.size + 1, 0, none⟩ = some (.int .i64 0)
  free : W.frozen? ⟨w.heap.size + 1, 0, none⟩ = false
  size : w.heap.size + 2 ≤ W.heap.size
  bel : Below w.heap.size w W
theorem LI.start (s : ByteArray) (w : World) (T1 T2 : TypeId) : LI s 0 w ((w.alloc (.cells #[.int .i64 0, .int .i64 0, .int .i64 0, .int .i64 0] T1)).alloc (.cells #[.int .i64 0] T2)) := by
  have h := (B4.new (p := fun _ => 0) w T1)
  have hb : Below w.heap.size w ((w.alloc (.cells #[.int .i64 0, .int .i64 0, .int .i64 0, .int .i64 0] T1)).alloc (.cells #[.int .i64 0] T2)) := ((Below.refl _ _).alloc (Nat.le_refl _) _).alloc (by simp) _
  exact ⟨h.below ((Below.refl _ _).alloc (Nat.le_refl _) _), by simp [go_sem], by simp [go_sem], by simp, hb⟩
theorem LI.below {s : ByteArray} {k : Nat} {w W W' : World} (h : LI s k w W) (hb : Below W.heap.size W W') : LI s k w W' :=
  ⟨h.box.below hb, (hb.cell (p := ⟨w.heap.size + 1, 0, none⟩) (by have := h.size; show w.heap.size + 1 < _; omega)).trans h.stop, by
    have := hb.block (w.heap.size + 1) (by have := h.size; omega)
    have e : W'.frozen? ⟨w.heap.size + 1, 0, none⟩ = W.frozen? ⟨w.heap.size + 1, 0, none⟩ := by unfold World.frozen?; rw [this]
    rw [e]; exact h.free, Nat.le_trans h.size hb.size, h.bel.trans (hb.mono h.bel.size)⟩
theorem LI.next {s : ByteArray} {k : Nat} {w W W' : World} (h : LI s k w W) (hB : B4 w.heap.size (vp s (k + 1)) W') (hg : W.grownBy W' (some w.heap.size)) : LI s (k + 1) w W' := by
  have e1 : W'.heap[w.heap.size + 1]? = W.heap[w.heap.size + 1]? := hg.block _ (by have := h.size; omega) (by intro e; injection e with e; omega)
  refine ⟨hB, ?_, ?_, Nat.le_trans h.size hg.size, h.bel.grown hg h.bel.size (fun q hq => by injection hq with hq; omega)⟩
  · have : W'.cell? ⟨w.heap.size + 1, 0, none⟩ = W.cell? ⟨w.heap.size + 1, 0, none⟩ := by unfold World.cell?; rw [e1]
    rw [this]; exact h.stop
  · have : W'.frozen? ⟨w.heap.size + 1, 0, none⟩ = W.frozen? ⟨w.heap.size + 1, 0, none⟩ := by unfold World.frozen?; rw [e1]
    rw [this]; exact h.free
theorem B4.same {b : Nat} {p : Nat → Nat} {W : World} (h : B4 b p W) (c : Nat) (hc : c < 4) : B4 b p (W.setCell ⟨b, c, none⟩ (.int .i64 ((p c : Nat) : Int))) := by
  refine ⟨fun j hj => ?_, fun j hj => ?_, ?_⟩
  · by_cases e : j = c
    · subst e
      exact World.cell?_setCell_same W ⟨b, j, none⟩ _ (h.cell j hj)
    · rw [World.cell?_setCell_other W ⟨b, c, none⟩ ⟨b, j, none⟩ _ (fun x => e (by injection x with _ x; exact x.symm))]
      exact h.cell j hj
  · rw [World.frozen?_setCell]; exact h.free j hj
  · simp [World.setCell]; exact h.lt
theorem LI.same {s : ByteArray} {k : Nat} {w W : World} (h : LI s k w W) (c : Nat) (hc : c < 4) : LI s k w (W.setCell ⟨w.heap.size, c, none⟩ (.int .i64 ((vp s k c : Nat) : Int))) :=
  ⟨h.box.same c hc, (World.cell?_setCell_other W ⟨w.heap.size, c, none⟩ ⟨w.heap.size + 1, 0, none⟩ _ (fun x => by injection x with x; omega)).trans h.stop, by rw [World.frozen?_setCell]; exact h.free, by simp [World.setCell]; exact h.size, h.bel.setCell (p := ⟨w.heap.size, c, none⟩) (Nat.le_refl _) _⟩
theorem LI.fin {s : ByteArray} {k : Nat} {w W : World} (h : LI s k w W) (x : Int) :
    ((W.setCell ⟨w.heap.size + 1, 0, none⟩ (.int .i64 x)).cell? ⟨w.heap.size, 0, none⟩ = some (.int .i64 ((vp s k 0 : Nat) : Int)) ∧ (W.setCell ⟨w.heap.size + 1, 0, none⟩ (.int .i64 x)).cell? ⟨w.heap.size, 1, none⟩ = some (.int .i64 ((vp s k 1 : Nat) : Int)) ∧ (W.setCell ⟨w.heap.size + 1, 0, none⟩ (.int .i64 x)).cell? ⟨w.heap.size, 2, none⟩ = some (.int .i64 ((vp s k 2 : Nat) : Int)) ∧ (W.setCell ⟨w.heap.size + 1, 0, none⟩ (.int .i64 x)).cell? ⟨w.heap.size, 3, none⟩ = some (.int .i64 ((vp s k 3 : Nat) : Int))) ∧ (W.setCell ⟨w.heap.size + 1, 0, none⟩ (.int .i64 x)).cell? ⟨w.heap.size + 1, 0, none⟩ = some (.int .i64 x) ∧ Below w.heap.size w (W.setCell ⟨w.heap.size + 1, 0, none⟩ (.int .i64 x)) := by
  have o : ∀ j, j < 4 → (W.setCell ⟨w.heap.size + 1, 0, none⟩ (.int .i64 x)).cell? ⟨w.heap.size, j, none⟩ = some (.int .i64 ((vp s k j : Nat) : Int)) := fun j hj =>
    (World.cell?_setCell_other W ⟨w.heap.size + 1, 0, none⟩ ⟨w.heap.size, j, none⟩ _ (fun e => by injection e with e; omega)).trans (h.box.cell j hj)
  exact ⟨⟨o 0 (by omega), o 1 (by omega), o 2 (by omega), o 3 (by omega)⟩, World.cell?_setCell_same W ⟨w.heap.size + 1, 0, none⟩ _ h.stop, h.bel.setCell (p := ⟨w.heap.size + 1, 0, none⟩) (by simp) _⟩
set_option maxRecDepth 100000 in
set_option maxHeartbeats 4000000 in
theorem letIn_any (s : ByteArray) (w : World) (hv : votB s = true) : Calls Tryd.prog 33 #[.string s] w (LetIn s w) := by
  have hmf : ∀ (fn : Fn) (first cap : Array Value) (w : World), (Instr.makeFunc fn first cap).run Tryd.prog w = .ok (.func fn first cap) w := fun _ _ _ _ => rfl
  have h16 := ((votB_iff s).1 hv).1
  have HC : Hid (∀ (k : Nat) (h : k < s.size) (w : World), Calls Tryd.prog 34 #[.int .u8 (s[k].toNat : Int)] w fun e w' => e = .returned (.int .i64 ((cd s k : Nat) : Int)) ∧ w = w') := Lib.hid fun k h w => candOf_any s k w hv h
  have HP : Hid (∀ (k b : Nat) (w : World), k < s.size → foTo s k = 0 → faB s (k + 1) = false → B4 b (vp s k) w → Calls Tryd.prog 40 #[.pointer (some ⟨b, 0, none⟩), .int .i64 ((cd s k : Nat) : Int)] w fun e w' => e = .panicked [{ v := .iface 61 (.int .i64 ((k : Int) + 1)), recovered := false }] ∧ Below w.heap.size w w') := Lib.hid fun k b w hk h0 hf h => by
    have ho := ov_iff hv hk h0
    rw [hf] at ho
    refine (admit_any b (vp s k) (cd s k) (votB_lt hv k hk) (by rw [tot_vp hv (by omega)]; omega) w h).mono ?_
    rintro e w' (⟨_, he, hb⟩ | ⟨hn, _⟩)
    · unfold ovV at he
      rw [tot_vp hv (by omega)] at he
      exact ⟨he, hb⟩
    · rw [ho] at hn; cases hn
  have HN : Hid (∀ (k b : Nat) (w : World), k < s.size → foTo s k = 0 → faB s (k + 1) = true → B4 b (vp s k) w → Calls Tryd.prog 40 #[.pointer (some ⟨b, 0, none⟩), .int .i64 ((cd s k : Nat) : Int)] w fun e w' => e = .returned (.tuple #[]) ∧ B4 b (vp s (k + 1)) w' ∧ w.grownBy w' (some b)) := Lib.hid fun k b w hk h0 hf h => by
    have ho := ov_iff hv hk h0
    rw [hf] at ho
    refine (admit_any b (vp s k) (cd s k) (votB_lt hv k hk) (by rw [tot_vp hv (by omega)]; omega) w h).mono ?_
    rintro e w' (⟨hn, _⟩ | ⟨_, he, hB, hg⟩)
    · rw [ho] at hn; cases hn
    · rw [vp_up] at hB
      exact ⟨he, hB, hg⟩
  have HFO : Hid (∀ k, k < s.size → foTo s k = 0 → faB s (k + 1) = false → foTo s s.size = k + 1) := Lib.hid fun k hk h hf => by
    have h1 := fo_no h hf
    rw [fo_stay (n := s.size) (k := k + 1) (show ¬ foTo s (k + 1) = 0 by omega) s.size (by omega), h1]
  have HFY : Hid (∀ k, foTo s k = 0 → faB s (k + 1) = true → foTo s (k + 1) = 0) := Lib.hid fun k h hf => fo_yes h hf
  have HL0 := Lib.hid (LI.start s w 38 3)
  clear hv
  unfold LetIn
  go_enter_defers Tryd.func33, Tryd.ntmps33
  go_wp2
  go_loopw [4, 8] (fun q i wr => ∃ k : Nat, k ≤ s.size ∧ i = .int .i64 (k : Int) ∧ Hid (foTo s k = 0) ∧ Hid (LI s k w wr)) (fun _ i _ => s.size - (intOf i).toNat)
  case atStart => exact ⟨0, Nat.zero_le _, rfl, Lib.hid rfl, HL0⟩
  case round =>
    obtain ⟨k, hk, rfl, HF, HL⟩ := hrel
    clear HL0
    by_cases hlt : k < s.size
    · have HCK := Lib.hid (HC.out k hlt)
      cases hf : faB s (k + 1) with
      | true =>
        have HNK := Lib.hid (fun w => HN.out k w · hlt HF.out hf)
        have HFK := Lib.hid (HFY.out k HF.out hf)
        clear hf HN HP HFO HFY HC
        go_wp2_with (first | (go_at_call 34; refine (HCK.out _).mono ?_; rintro e w' ⟨rfl, rfl⟩) | (go_at_call 40; refine (HNK.out _ _ HL.out.box).mono ?_; rintro e w1 ⟨rfl, hB1, hg1⟩; have HL1 := Lib.hid (HL.out.next hB1 hg1)))
        go_roundw
        case rel => exact ⟨k + 1, by omega, by go_num, HFK, HL1⟩
        case measure => first | (simp [intOf]; done) | (simp [intOf]; omega)
      | false =>
        have HPK := Lib.hid (fun w => HP.out k w · hlt HF.out hf)
        have HFK := Lib.hid (HFO.out k hlt HF.out hf)
        clear hf HN HP HFO HFY HC
        go_wp2_with (first | (go_at_call 34; refine (HCK.out _).mono ?_; rintro e w' ⟨rfl, rfl⟩) | (go_at_call 40; refine (HPK.out _ _ HL.out.box).mono ?_; rintro e w1 ⟨rfl, hb1⟩; have HL1 := Lib.hid (HL.out.below hb1)))
        refine leaves_cons (f := 39) (args := #[.pointer (some ⟨w.heap.size + 1, 0, none⟩)]) (by simp) (by simp [go_sem]) ?_
        refine (catch_panicking ⟨w.heap.size + 1, 0, none⟩ 0 _ [] _ HL1.out.stop HL1.out.free).mono ?_
        rintro e u' w'' ⟨rfl, rfl, rfl⟩
        obtain ⟨⟨d0, d1, d2, d3⟩, d4, hbl⟩ := HL1.out.fin ((k : Int) + 1)
        simp [Leaves, settle, results, Tryd.results33, go_sem, d0, d1, d2, d3, d4]
        exact ⟨vp s k, ⟨rfl, by have := HFK.out; omega⟩, fun h => by have := HFK.out; omega, hbl⟩
    · obtain rfl : k = s.size := by omega
      clear HN HP HFO HFY HC
      have c0 := HL.out.box.cell 0 (by omega)
      have c1 := HL.out.box.cell 1 (by omega)
      have c2 := HL.out.box.cell 2 (by omega)
      have c3 := HL.out.box.cell 3 (by omega)
      have f0 := HL.out.box.free 0 (by omega)
      have f1 := HL.out.box.free 1 (by omega)
      have f2 := HL.out.box.free 2 (by omega)
      have f3 := HL.out.box.free 3 (by omega)
      have cs := HL.out.stop
      have fs := HL.out.free
      go_wp2
      obtain ⟨⟨d0, d1, d2, d3⟩, d4, hbl⟩ := ((((HL.out.same 0 (by omega)).same 1 (by omega)).same 2 (by omega)).same 3 (by omega)).fin 0
      refine leaves_cons (f := 39) (args := #[.pointer (some ⟨w.heap.size + 1, 0, none⟩)]) (by simp) (by simp [go_sem]) ?_
      refine (catch_idle ⟨w.heap.size + 1, 0, none⟩ _).mono ?_
      rintro e u' w'' ⟨rfl, rfl, rfl⟩
      simp [Leaves, settle, results, Tryd.results33, go_sem, d0, d1, d2, d3, d4]
      exact ⟨vp s s.size, ⟨rfl, by have := HF.out; omega⟩, fun _ => rfl, hbl⟩
end Go.Proofs.YtmfcknlpbliehaaDoor

/- Words for memory: bytes that the call owns; the two conversions between bytes and strings. -/
namespace Go.Proofs.YtmfcknlpbliehaaDoor
open Go.RowKit

theorem bytInfo : (Tryd.prog.info? 5).map (fun i => (i.zero, i.size, i.bytes)) = some (some (.int .u8 0), 1, 1) := by kernel_rfl
def bv (c : UInt8) : Value := .int .u8 (c.toNat : Int)
/-- the slice value v owns the bytes xs, in a block from B on -/
def BOwn (w : World) (B : Nat) (v : Value) (xs : List UInt8) : Prop := w.ownsRow B 5 1 v xs.length (xs.map bv)
section
variable {w w' : World} {B : Nat} {v : Value} {xs : List UInt8}
theorem BOwn.nil (w : World) (B : Nat) : BOwn w B (.slice none 0 0) [] := World.ownsRow_nil _ _ _ _
theorem BOwn.mono (h : BOwn w B v xs) {B' : Nat} (hb : B' ≤ B) : BOwn w B' v xs := by
  refine ⟨h.1, ?_⟩
  rcases h.2 with h2 | ⟨g, cap, cur, hv, hg, r⟩
  · exact .inl h2
  · exact .inr ⟨g, cap, cur, hv, Nat.le_trans hb hg, r⟩
theorem BOwn.alloc (h : BOwn w B v xs) (o : Obj) : BOwn (w.alloc o) B v xs := World.ownsRow.alloc h o
theorem BOwn.drew (h : BOwn w B v xs) : BOwn w.drew B v xs := h
theorem BOwn.drewN (h : BOwn w B v xs) (n : Nat) : BOwn (w.drewN n) B v xs := h
theorem BOwn.below (h : BOwn w B v xs) (hb : Below w.heap.size w w') : BOwn w' B v xs :=
  World.ownsRow.kept (row := none) h ⟨hb.os, hb.tape, hb.output, hb.size, fun k hk _ => hb.block k hk⟩ (by cases v.ownBlock <;> simp)
theorem BOwn.form' {n : Nat} (h : BOwn w B v xs) (hn : xs.length = n) (hx : 0 < n) : ∃ g c, v = .slice (some ⟨g, 0, none⟩) n c ∧ B ≤ g ∧ g < w.heap.size := by
  subst hn
  rcases h.2 with ⟨_, h0⟩ | ⟨g, cap, cur, hv, hg, hh, hc, hm, _⟩
  · omega
  · exact ⟨g, cap, hv, hg, (Array.getElem?_eq_some_iff.1 hh).1⟩
theorem BOwn.shape (h : BOwn w B v xs) : ∃ A c, v = .slice A xs.length c := by
  rcases h.2 with ⟨h1, h0⟩ | ⟨g, cap, cur, hv, _⟩
  · exact ⟨none, 0, by rw [h1, h0]⟩
  · exact ⟨_, cap, hv⟩
theorem BOwn.len {A : Option Addr} {n c : Nat} (h : BOwn w B (.slice A n c) xs) : n = xs.length := by
  rcases h.2 with ⟨h0, h1⟩ | ⟨g', cap, cur, hv, _⟩
  · simp at h0; omega
  · simp at hv; exact hv.2.1
theorem BOwn.cell {g c n : Nat} (h : BOwn w B (.slice (some ⟨g, 0, none⟩) n c) xs) {j : Nat} (hj : j < xs.length) : w.cell? ⟨g, j, none⟩ = some (.int .u8 ((xs[j]).toNat : Int)) := by
  have hn := h.len
  subst hn
  rw [World.ownsRow.cellAt h j (by omega)]
  simp [hj, bv]
theorem BOwn.free {g c n : Nat} (h : BOwn w B (.slice (some ⟨g, 0, none⟩) n c) xs) (j : Nat) : w.frozen? ⟨g, j, none⟩ = false := by
  have hn := h.len
  subst hn
  exact World.ownsRow.frozenAt h j
theorem BOwn.set {g c n : Nat} (h : BOwn w B (.slice (some ⟨g, 0, none⟩) n c) xs) (j : Nat) (u : UInt8) :
    BOwn (w.setCell ⟨g, j, none⟩ (.int .u8 (u.toNat : Int))) B (.slice (some ⟨g, 0, none⟩) n c) (xs.set j u) ∧ w.grownBy (w.setCell ⟨g, j, none⟩ (.int .u8 (u.toNat : Int))) (some g) := by
  have hn := h.len
  subst hn
  have := World.ownsRow.stored h j (bv u)
  refine ⟨?_, this.2⟩
  have h1 := this.1
  unfold BOwn
  rw [List.length_set, List.map_set]
  exact h1
theorem BOwn.blk (h : BOwn w B v xs) : ∀ k, v.ownBlock = some k → B ≤ k ∧ k < w.heap.size := World.ownsRow.lt h
theorem BOwn.of_own {n : Nat} {ys : List Value} (h : w.ownsRow B 5 1 v n ys) (hn : n = xs.length) (hy : ys = xs.map bv) : BOwn w B v xs := by subst hn hy; exact h
end

/-- append of one byte to a slice of the call's own -/
theorem wpList_pushB {ops : Array Oper} {rest : List Oper} {o : Oper} {a : Act} {Q : Exit → Act → World → Prop} {w : World} (u : UInt8) (s x : Operand) (hgd : o.guard = none)
    (ho : o.op = .call { callee := .builtin .append, args := #[s, x], argTypes := #[46, 46] })
    (B : Nat) (v : Value) (xs : List UInt8) (hs : a.eval s = v) (hown : BOwn w B v xs) (hx : a.eval x = .slice (some ⟨w.heap.size, 0, none⟩) 1 1)
    (hlen : xs.length ≤ 1099511627776) (hB : B ≤ w.heap.size)
    (h : ∀ v' w', BOwn w' B v' (xs ++ [u]) → w.grownBy w' v.ownBlock → (v'.ownBlock = v.ownBlock ∨ ∃ g, v'.ownBlock = some g ∧ w.heap.size ≤ g) → wpList Tryd.prog ops Q rest (a.put o.dst v') w') :
    wpList Tryd.prog ops Q (o :: rest) a (w.alloc (.cells #[.int .u8 (u.toNat : Int)] 5)) := by
  obtain ⟨i0, hi, hz0, hz1, hz2⟩ := info_parts bytInfo
  refine wpList_append_own_at _ hgd s x 46 ho B 5 i0 (.int .u8 0) 1 1 Tryd.underlying46 hi hz0 hz1 hz2 rfl (by decide) v xs.length (xs.map bv) hs (World.ownsRow.alloc hown _)
    ⟨w.heap.size, 0, none⟩ 1 1 [bv u] hx rfl ?_ ?_ ?_ ?_ ?_ ?_
  · intro j y hj
    match j, hj with
    | 0, hj => simp at hj; subst hj; simp [Addr.add, bv]
  · intro y hy; simp at hy; subst hy; rfl
  · unfold maxLen; omega
  · omega
  · simp; omega
  · intro v' w' h1 h2 _ h4
    refine h v' w' ?_ (grown_alloc_left h2) ?_
    · unfold BOwn
      simpa using h1
    · rcases h4 with h4 | h4
      · exact .inl h4
      · exact .inr ⟨_, h4, by simp⟩

theorem ret_sb {a b : ByteArray} {c d : Bool} (h : a = b) (k : c = d) : Ending.returned (.tuple #[.string a, .bool c]) = .returned (.tuple #[.string b, .bool d]) := by rw [h, k]
theorem ret_s {a b : ByteArray} (h : a = b) : Ending.returned (.string a) = .returned (.string b) := by rw [h]
/-- bytes as a string -/
def strOf (l : List UInt8) : ByteArray := ⟨l.toArray⟩
theorem strOf_list (l : List UInt8) : (strOf l).data.toList = l := by simp [strOf]
theorem strOf_size (l : List UInt8) : (strOf l).size = l.length := by simp [strOf, ByteArray.size]
theorem strOf_self (s : ByteArray) : strOf s.data.toList = s := by simp [strOf]

theorem run_str_cells (w : World) (g n c : Nat) (xs : List UInt8) (hn : xs.length = n) (hc : ∀ j (hj : j < xs.length), w.cell? ⟨g, j, none⟩ = some (.int .u8 ((xs[j]).toNat : Int))) :
    (convert 46 9 (.slice (some ⟨g, 0, none⟩) n c)).run Tryd.prog w = .ok (.string (strOf xs)) w := by
  subst hn
  exact run_convert_bytes_back w 46 9 5 ⟨g, 0, none⟩ c xs Tryd.underlying46 Tryd.underlying5 Tryd.underlying9 (fun j hj => by
    have : (⟨g, 0, none⟩ : Addr).add j = ⟨g, j, none⟩ := by unfold Addr.add; split <;> simp_all
    rw [this]; exact hc j hj)
theorem run_str_nil (w : World) : (convert 46 9 (.slice none 0 0)).run Tryd.prog w = .ok (.string (strOf [])) w := by
  rw [run_convert_bytes_string w 46 9 5 none 0 0 Tryd.underlying46 Tryd.underlying5 Tryd.underlying9]
  rfl
theorem run_str_own {w : World} {B : Nat} {v : Value} {xs : List UInt8} (h : BOwn w B v xs) : (convert 46 9 v).run Tryd.prog w = .ok (.string (strOf xs)) w := by
  rcases h.2 with ⟨h1, h0⟩ | ⟨g, cap, cur, hv, _⟩
  · obtain rfl := h1
    obtain rfl : xs = [] := List.eq_nil_of_length_eq_zero h0
    exact run_str_nil w
  · subst hv
    exact run_str_cells w g _ cap xs rfl fun j hj => h.cell hj

/-- the world behind a conversion of a string to bytes -/
def bsWorld (w : World) (s : ByteArray) : World := Lib.bytesWorld w 5 s
def bsCap (w : World) (s : ByteArray) : Nat := grownCap w s.size 0 5
theorem run_bytes (s : ByteArray) (w : World) : (convert 9 46 (.string s)).run Tryd.prog w = .ok (.slice (some ⟨w.heap.size, 0, none⟩) s.size (bsCap w s)) (bsWorld w s) :=
  Lib.run_convert_string_bytes w 9 46 5 s Tryd.underlying9 Tryd.underlying46 Tryd.underlying5
theorem bsWorld_size (w : World) (s : ByteArray) : (bsWorld w s).heap.size = w.heap.size + 1 := Lib.bytesWorld_size _ _ _
theorem bsWorld_below (w : World) (s : ByteArray) : Below w.heap.size w (bsWorld w s) := by
  refine ⟨?_, ?_, ?_, by rw [bsWorld_size]; omega, fun k hk => Lib.bytesWorld_at_old w _ s k hk⟩ <;>
    simp [bsWorld, Lib.bytesWorld, World.freeze, World.alloc, World.drew, -World.alloc_eq, -World.drew_eq]

/-- bytes that lie in one block from its head, none of them frozen -/
structure BRow (w : World) (B g : Nat) (xs : List UInt8) : Prop where
  from_ : B ≤ g
  lt : g < w.heap.size
  cell : ∀ j (h : j < xs.length), w.cell? ⟨g, j, none⟩ = some (.int .u8 ((xs[j]).toNat : Int))
  free : ∀ j, j < xs.length → w.frozen? ⟨g, j, none⟩ = false
theorem BRow.below {w w' : World} {B g : Nat} {xs : List UInt8} (h : BRow w B g xs) (hb : Below w.heap.size w w') : BRow w' B g xs :=
  ⟨h.from_, Nat.lt_of_lt_of_le h.lt hb.size, fun j hj => (hb.cell (p := ⟨g, j, none⟩) h.lt).trans (h.cell j hj), fun j hj => (hb.frozen (p := ⟨g, j, none⟩) h.lt).trans (h.free j hj)⟩
theorem BRow.drew {w : World} {B g : Nat} {xs : List UInt8} (h : BRow w B g xs) : BRow w.drew B g xs := ⟨h.from_, h.lt, h.cell, h.free⟩
theorem BRow.mono {w : World} {B B' g : Nat} {xs : List UInt8} (h : BRow w B g xs) (hb : B' ≤ B) : BRow w B' g xs := ⟨Nat.le_trans hb h.from_, h.lt, h.cell, h.free⟩
theorem BRow.of_bs (w : World) (s : ByteArray) : BRow (bsWorld w s) w.heap.size w.heap.size s.data.toList := by
  refine ⟨Nat.le_refl _, by rw [bsWorld_size]; omega, fun j hj => ?_, fun j hj => ?_⟩
  · have := Lib.bytesWorld_cell w 5 s j (by simpa using hj)
    rw [List.getD_eq_getElem?_getD, List.getElem?_eq_getElem hj] at this
    exact this
  · unfold bsWorld World.frozen?
    rw [Lib.bytesWorld_at_new]
    have : s.size ≤ (Lib.bytesCells w 5 s).size := by simp [Lib.bytesCells]
    have hs : j < s.size := by simpa using hj
    have : ¬ (Lib.bytesCells w 5 s).size ≤ j := by omega
    simp [this]
theorem BRow.of_own {w : World} {B g n c : Nat} {xs : List UInt8} (h : BOwn w B (.slice (some ⟨g, 0, none⟩) n c) xs) : BRow w B g xs :=
  ⟨(h.blk g rfl).1, (h.blk g rfl).2, fun _ hj => h.cell hj, fun j _ => h.free j⟩
theorem BRow.set {w : World} {B g : Nat} {xs : List UInt8} (h : BRow w B g xs) (j : Nat) (u : UInt8) (hj : j < xs.length) : BRow (w.setCell ⟨g, j, none⟩ (.int .u8 (u.toNat : Int))) B g (xs.set j u) := by
  refine ⟨h.from_, by simpa [World.setCell] using h.lt, fun i hi => ?_, fun i hi => ?_⟩
  · rw [List.length_set] at hi
    by_cases e : j = i
    · subst e
      rw [List.getElem_set_self]
      exact World.cell?_setCell_same w ⟨g, j, none⟩ _ (h.cell j hj)
    · rw [List.getElem_set_ne e]
      rw [World.cell?_setCell_other w ⟨g, j, none⟩ ⟨g, i, none⟩ _ (fun h => e (by injection h))]
      exact h.cell i hi
  · rw [List.length_set] at hi
    rw [World.frozen?_setCell]
    exact h.free i hi
end Go.Proofs.YtmfcknlpbliehaaDoor
