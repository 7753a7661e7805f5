/- (ballot).pathOfRank. -/
import Derived.Test.YtcnggafbdjhagaaWays2
import Derived.Test.YtcnggafbdjhagaaJoinS
namespace Go.Proofs.Ytcnggafbdjhagaa
open Go.RowKit
/-- a call over a ballot: its answer; the map right, nothing else turned -/
def BalRet (w : World) (mb : Nat) (V : Int → Int → Int) (x : Value) (e : Ending) (w' : World) : Prop := e = .returned x ∧ MapOk w' mb V ∧ w.grownBy w' (some mb)
/-- what stays beside the cells that are read: room to store, the texts so far -/
def Rest2 (w : World) (g mb B : Nat) (V : Int → Int → Int) (v : Value) (xs : List ByteArray) (W : World) : Prop :=
  (W.frozen? ⟨g, 0, none⟩ = false ∧ W.frozen? ⟨g, 1, none⟩ = false) ∧ w.heap.size < g ∧ g < B ∧ B ≤ W.heap.size ∧ mb < w.heap.size ∧ Stays w mb V W ∧ SRow W B v xs
def PX (a b mb g B : Nat) (k l u d : Int) (V : Int → Int → Int) (v : Value) (xs : List ByteArray) (w W : World) : Prop :=
  (W.cell? ⟨w.heap.size, 0, none⟩ = some (.int .i64 a) ∧ W.cell? ⟨w.heap.size, 1, none⟩ = some (.int .i64 b) ∧ W.cell? ⟨w.heap.size, 2, none⟩ = some (.int .i64 k) ∧ W.cell? ⟨w.heap.size, 3, none⟩ = some (.int .i64 l) ∧ W.cell? ⟨w.heap.size, 4, none⟩ = some (.map (some mb)) ∧
    W.cell? ⟨g, 0, none⟩ = some (.int .i64 u) ∧ W.cell? ⟨g, 1, none⟩ = some (.int .i64 d)) ∧ Rest2 w g mb B V v xs W
section
variable {a b mb g B : Nat} {k l u d : Int} {V : Int → Int → Int} {v : Value} {xs : List ByteArray} {w W W' : World}
theorem srow_keep (h : SRow W B v xs) (hmb : mb < B) (hg : W.grownBy W' (some mb)) : SRow W' B v xs :=
  World.ownsRow.kept h hg (by
    cases e : v.ownBlock with
    | none => exact .inl rfl
    | some q =>
      right
      intro e2
      have := (h.blk q e).1
      injection e2 with e3
      omega)
theorem PX.map (h : PX a b mb g B k l u d V v xs w W) : MapOk W mb V := h.2.2.2.2.2.2.1.1
theorem PX.grow {row : Option Nat} (h : PX a b mb g B k l u d V v xs w W) (hg : W.grownBy W' row) (hr : ∀ q, row = some q → q = mb ∨ B ≤ q) (hm : MapOk W' mb V) {v' : Value} {xs' : List ByteArray} (hx : SRow W' B v' xs') : PX a b mb g B k l u d V v' xs' w W' := by
  obtain ⟨⟨h0, h1, h2, h3, h4, h5, h6⟩, ⟨hf0, hf1⟩, hwg, hgB, hBW, hmb, hs, hrow⟩ := h
  have e : ∀ x o, w.heap.size ≤ x → x < B → W'.cell? ⟨x, o, none⟩ = W.cell? ⟨x, o, none⟩ := fun x o hx hx2 => cell_grown hg (by omega) (by intro he; rcases hr x he.symm with h | h <;> omega) o
  have ef : ∀ x o, w.heap.size ≤ x → x < B → W'.frozen? ⟨x, o, none⟩ = W.frozen? ⟨x, o, none⟩ := fun x o hx hx2 => frozen_grown hg (by omega) (by intro he; rcases hr x he.symm with h | h <;> omega) o
  refine ⟨⟨(e _ _ (by omega) (by omega)).trans h0, (e _ _ (by omega) (by omega)).trans h1, (e _ _ (by omega) (by omega)).trans h2, (e _ _ (by omega) (by omega)).trans h3, (e _ _ (by omega) (by omega)).trans h4, (e _ _ (by omega) (by omega)).trans h5, (e _ _ (by omega) (by omega)).trans h6⟩,
    ⟨(ef _ _ (by omega) (by omega)).trans hf0, (ef _ _ (by omega) (by omega)).trans hf1⟩, hwg, hgB, Nat.le_trans hBW hg.size, hmb, ⟨hm, ?_⟩, hx⟩
  refine ⟨hg.os.trans hs.2.os, hg.tape.trans hs.2.tape, hg.output.trans hs.2.output, Nat.le_trans hs.2.size hg.size, fun i hi hne => (hg.block i (Nat.lt_of_lt_of_le hi hs.2.size) ?_).trans (hs.2.block i hi hne)⟩
  intro he
  rcases hr i he.symm with h | h
  · exact hne (by rw [h])
  · omega
theorem PX.step (h : PX a b mb g B k l u d V v xs w W) (hm : MapOk W' mb V) (hg : W.grownBy W' (some mb)) : PX a b mb g B k l u d V v xs w W' :=
  h.grow hg (fun q hq => .inl (by injection hq with hq; exact hq.symm)) hm (srow_keep h.2.2.2.2.2.2.2 (by have := h.2.2.1; have := h.2.2.2.1; have := h.2.2.2.2.2.1; omega) hg)
theorem PX.below (h : PX a b mb g B k l u d V v xs w W) (hb : Below W.heap.size W W') : PX a b mb g B k l u d V v xs w W' :=
  h.step (h.map.below hb) ⟨hb.os, hb.tape, hb.output, hb.size, fun k hk _ => hb.block k hk⟩
theorem PX.drewN (h : PX a b mb g B k l u d V v xs w W) (n : Nat) : PX a b mb g B k l u d V v xs w (W.drewN n) := h.below (below_drewN (Below.refl _ _) n)
theorem PX.drew (h : PX a b mb g B k l u d V v xs w W) : PX a b mb g B k l u d V v xs w W.drew := h.drewN 1
theorem PX.room (h : PX a b mb g B k l u d V v xs w W) : W.frozen? ⟨g, 0, none⟩ = false ∧ W.frozen? ⟨g, 1, none⟩ = false := h.2.1
theorem PX.row (h : PX a b mb g B k l u d V v xs w W) : SRow W B v xs := h.2.2.2.2.2.2.2
theorem PX.store (h : PX a b mb g B k l u d V v xs w W) (u' d' : Int) : PX a b mb g B k l u' d' V v xs w ((W.setCell ⟨g, 0, none⟩ (.int .i64 u')).setCell ⟨g, 1, none⟩ (.int .i64 d')) := by
  obtain ⟨⟨h0, h1, h2, h3, h4, h5, h6⟩, ⟨hf0, hf1⟩, hwg, hgB, hBW, hmb, hs, hrow⟩ := h
  have o1 : ∀ x o, x ≠ g → ((W.setCell ⟨g, 0, none⟩ (.int .i64 u')).setCell ⟨g, 1, none⟩ (.int .i64 d')).cell? ⟨x, o, none⟩ = W.cell? ⟨x, o, none⟩ := fun x o hx => by
    rw [World.cell?_setCell_other _ ⟨g, 1, none⟩ ⟨x, o, none⟩ _ (fun e => hx (by injection e with e; exact e.symm)), World.cell?_setCell_other _ ⟨g, 0, none⟩ ⟨x, o, none⟩ _ (fun e => hx (by injection e with e; exact e.symm))]
  have hsz : ((W.setCell ⟨g, 0, none⟩ (.int .i64 u')).setCell ⟨g, 1, none⟩ (.int .i64 d')).heap.size = W.heap.size := by simp [World.setCell]
  have hgr : W.grownBy ((W.setCell ⟨g, 0, none⟩ (.int .i64 u')).setCell ⟨g, 1, none⟩ (.int .i64 d')) (some g) := by
    refine ⟨rfl, rfl, rfl, by rw [hsz]; omega, fun i hi hne => ?_⟩
    unfold World.setCell
    simp only [Array.getElem?_modify]
    rw [if_neg (fun e => hne (by rw [e])), if_neg (fun e => hne (by rw [e]))]
  refine ⟨⟨(o1 _ _ (by omega)).trans h0, (o1 _ _ (by omega)).trans h1, (o1 _ _ (by omega)).trans h2, (o1 _ _ (by omega)).trans h3, (o1 _ _ (by omega)).trans h4, ?_, ?_⟩, ⟨?_, ?_⟩, hwg, hgB, by rw [hsz]; exact hBW, hmb, ⟨?_, ?_⟩, ?_⟩
  · rw [World.cell?_setCell_other _ ⟨g, 1, none⟩ ⟨g, 0, none⟩ _ (fun e => by injection e with _ e; omega)]
    exact World.cell?_setCell_same W ⟨g, 0, none⟩ _ h5
  · exact World.cell?_setCell_same _ ⟨g, 1, none⟩ _ ((World.cell?_setCell_other W ⟨g, 0, none⟩ ⟨g, 1, none⟩ _ (fun e => by injection e with _ e; omega)).trans h6)
  · rw [World.frozen?_setCell, World.frozen?_setCell]; exact hf0
  · rw [World.frozen?_setCell, World.frozen?_setCell]; exact hf1
  · exact hs.1.kept hgr (by intro e; injection e with e; omega)
  · refine ⟨hs.2.os, hs.2.tape, hs.2.output, by rw [hsz]; exact hs.2.size, fun i hi hne => (hgr.block i (Nat.lt_of_lt_of_le hi hs.2.size) (by intro e; injection e with e; omega)).trans (hs.2.block i hi hne)⟩
  · exact World.ownsRow.kept hrow hgr (by
      cases e : v.ownBlock with
      | none => exact .inl rfl
      | some q =>
        right
        intro e2
        have := (hrow.blk q e).1
        injection e2 with e3
        omega)
theorem PX.fin (h : PX a b mb g B k l u d V v xs w W) (hb : Below W.heap.size W W') {x y : Value} (e : x = y) : BalRet w mb V y (.returned x) W' := by
  have h2 := h.below hb
  subst e
  exact ⟨rfl, h2.map, h2.2.2.2.2.2.2.1.2⟩
end
end Go.Proofs.Ytcnggafbdjhagaa
