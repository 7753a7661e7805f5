/- Pack 34 of what FnExactRankOrdered needs: Look0, LokM. -/
import Derived.Test.YtmfcknlpbliehaaDoorKFnExactRankOrdered33
/- Texts behind a beginning; a slice variable behind a pointer that texts are put into. -/
namespace Go.Proofs.YtmfcknlpbliehaaDoor
open Go.RowKit
/-- texts behind a beginning -/
def behind (s : ByteArray) (L : List (List UInt8)) : List ByteArray := L.map fun t => s ++ (⟨t.toArray⟩ : ByteArray)
theorem behind_cons (s : ByteArray) (c : UInt8) (L : List (List UInt8)) : behind s (L.map fun t => c :: t) = behind (s ++ (⟨#[c]⟩ : ByteArray)) L := by
  unfold behind
  rw [List.map_map]
  apply List.map_congr_left
  intro t _
  apply ByteArray.ext
  simp
theorem behind_app (s : ByteArray) (L M : List (List UInt8)) : behind s (L ++ M) = behind s L ++ behind s M := by simp [behind]
theorem behind_nil (s : ByteArray) : behind s [[]] = [s] := by
  show [s ++ (⟨#[]⟩ : ByteArray)] = [s]
  congr 1
  apply ByteArray.ext
  simp
theorem behind_none (L : List (List UInt8)) : behind ByteArray.empty L = L.map fun t => ⟨t.toArray⟩ := by
  unfold behind
  apply List.map_congr_left
  intro t _
  apply ByteArray.ext
  simp
theorem cell_grownL {w w' : World} {row : Option Nat} (h : w.grownBy w' row) {b : Nat} (hb : b < w.heap.size) (hne : some b ≠ row) (o : Nat) : w'.cell? ⟨b, o, none⟩ = w.cell? ⟨b, o, none⟩ := by
  unfold World.cell?
  rw [h.block b hb hne]
theorem frozen_grownL {w w' : World} {row : Option Nat} (h : w.grownBy w' row) {b : Nat} (hb : b < w.heap.size) (hne : some b ≠ row) (o : Nat) : w'.frozen? ⟨b, o, none⟩ = w.frozen? ⟨b, o, none⟩ := by
  unfold World.frozen?
  rw [h.block b hb hne]
/-- a slice variable at p that holds such texts, its row behind it -/
def LK (p : Nat) (v : Value) (xs : List ByteArray) (W : World) : Prop := W.cell? ⟨p, 0, none⟩ = some v ∧ W.frozen? ⟨p, 0, none⟩ = false ∧ p < W.heap.size ∧ SRow W (p + 1) v xs
def LookRet (p : Nat) (xs : List ByteArray) (W : World) (e : Ending) (W' : World) : Prop := e = .returned (.tuple #[]) ∧ ∃ v', LK p v' xs W' ∧ Below p W W'
theorem LK.push {p : Nat} {v v' : Value} {xs ys : List ByteArray} {W W' : World} (h : LK p v xs W) (hg : W.grownBy W' v.ownBlock) (hr : SRow W' (p + 1) v' ys) :
    LK p v' ys (W'.setCell ⟨p, 0, none⟩ v') ∧ Below p W (W'.setCell ⟨p, 0, none⟩ v') := by
  obtain ⟨h1, h2, h3, h4⟩ := h
  have hlow : ∀ q, v.ownBlock = some q → p + 1 ≤ q := fun q hq => (h4.blk q hq).1
  have hnp : some p ≠ v.ownBlock := fun e => by have := hlow p e.symm; omega
  have hc : W'.cell? ⟨p, 0, none⟩ = some v := (cell_grownL hg h3 hnp 0).trans h1
  have hf : W'.frozen? ⟨p, 0, none⟩ = false := (frozen_grownL hg h3 hnp 0).trans h2
  have hsz : (W'.setCell ⟨p, 0, none⟩ v').heap.size = W'.heap.size := by simp [World.setCell]
  have hgr : W'.grownBy (W'.setCell ⟨p, 0, none⟩ v') (some p) := by
    refine ⟨rfl, rfl, rfl, by rw [hsz]; omega, fun i hi hne => ?_⟩
    unfold World.setCell
    simp only [Array.getElem?_modify]
    rw [if_neg (fun e => hne (by rw [e]))]
  refine ⟨⟨World.cell?_setCell_same W' ⟨p, 0, none⟩ v' hc, by rw [World.frozen?_setCell]; exact hf, by rw [hsz]; exact Nat.lt_of_lt_of_le h3 hg.size, ?_⟩, ?_⟩
  · exact World.ownsRow.kept hr hgr (by
      cases e : v'.ownBlock with
      | none => exact .inl rfl
      | some q =>
        right
        intro e2
        have := (hr.blk q e).1
        injection e2 with e3
        omega)
  · exact ((Below.refl p W).grown hg (by omega) (fun q hq => by have := hlow q hq; omega)).setCell (Nat.le_refl _) _
end Go.Proofs.YtmfcknlpbliehaaDoor

/- voLook: its parts. -/
namespace Go.Proofs.YtmfcknlpbliehaaDoor
open Go.RowKit
set_option linter.unusedVariables false
def abcd1 (k : Nat) : ByteArray := (⟨#[97, 98, 99, 100]⟩ : ByteArray).extract k (k + 1)
theorem abcd1_eq {k : Nat} (h : k < 4) : abcd1 k = (⟨#[UInt8.ofNat (97 + k)]⟩ : ByteArray) := by
  have : k = 0 ∨ k = 1 ∨ k = 2 ∨ k = 3 := by omega
  rcases this with e | e | e | e <;> subst e <;> rfl
def prt (R p : Nat → Nat) (s : ByteArray) (m : Nat) : Nat → List ByteArray
  | 0 => []
  | k + 1 => prt R p s m k ++ (if no R p k then [] else behind (s ++ abcd1 k) ((ll R m (up p k)).map lett))
theorem prt_no {R p : Nat → Nat} {s : ByteArray} {m k : Nat} (h : no R p k) : prt R p s m (k + 1) = prt R p s m k := by
  rw [prt, if_pos h, List.append_nil]
theorem prt_go {R p : Nat → Nat} {s : ByteArray} {m k : Nat} (h : ¬ no R p k) : prt R p s m (k + 1) = prt R p s m k ++ behind (s ++ abcd1 k) ((ll R m (up p k)).map lett) := by
  rw [prt, if_neg h]
theorem prt_one (R p : Nat → Nat) (s : ByteArray) (m : Nat) {i : Nat} (hi : i < 4) : behind s ((if no R p i then [] else (ll R m (up p i)).map (List.cons i)).map lett) = if no R p i then [] else behind (s ++ abcd1 i) ((ll R m (up p i)).map lett) := by
  by_cases h : no R p i
  · rw [if_pos h, if_pos h]; rfl
  · rw [if_neg h, if_neg h, abcd1_eq hi, ← behind_cons, List.map_map, List.map_map]
    rfl
theorem prt_full (R p : Nat → Nat) (s : ByteArray) (m : Nat) : prt R p s m 4 = behind s ((ll R (m + 1) p).map lett) := by
  rw [ll, List.map_append, List.map_append, List.map_append, behind_app, behind_app, behind_app, prt_one R p s m (show 0 < 4 by omega), prt_one R p s m (show 1 < 4 by omega), prt_one R p s m (show 2 < 4 by omega), prt_one R p s m (show 3 < 4 by omega)]
  show ((([] ++ _) ++ _) ++ _) ++ _ = _
  rw [List.nil_append]
theorem behind_len (s : ByteArray) (L : List (List UInt8)) : (behind s L).length = L.length := by simp [behind]
theorem prt_len {R p : Nat → Nat} (s : ByteArray) {m : Nat} (h : Ok R p) (ht : tot p + (m + 1) = tot R) : ∀ k, k ≤ 4 → (prt R p s m k).length = byS R p k
  | 0, _ => rfl
  | k + 1, hk => by
    rw [byS, prt, List.length_append, prt_len s h ht k (by omega)]
    congr 1
    by_cases hn : no R p k
    · rw [if_pos hn, byW_no hn]; rfl
    · rw [if_neg hn, byW_go hn, behind_len, List.length_map, ll_len m (up p k) (h.up (by omega) hn) (by rw [tot_up p (by omega)]; omega)]
theorem prt_same {R p : Nat → Nat} (s : ByteArray) (m : Nat) (h : same R p) : ∀ k, k ≤ 4 → prt R p s m k = []
  | 0, _ => rfl
  | k + 1, hk => by
    rw [prt_no, prt_same s m h k (by omega)]
    have : k = 0 ∨ k = 1 ∨ k = 2 ∨ k = 3 := by omega
    obtain ⟨h0, h1, h2, h3⟩ := h
    rcases this with e | e | e | e <;> subst e
    · exact .inl h0
    · exact .inl h1
    · exact .inl h2
    · exact .inl h3
/-- what stays when texts are put into the slice variable at P -/
structure St9 (P : Nat) (v : Value) (W : World) (v' : Value) (W' : World) : Prop where
  os : W'.os = W.os
  tape : W'.tape = W.tape
  output : W'.output = W.output
  size : W.heap.size ≤ W'.heap.size
  block : ∀ k, k < W.heap.size → k ≠ P → some k ≠ v.ownBlock → W'.heap[k]? = W.heap[k]?
  own : v'.ownBlock = v.ownBlock ∨ ∃ g, v'.ownBlock = some g ∧ W.heap.size ≤ g
section
variable {P : Nat} {v v1 v2 : Value} {W W1 W2 : World}
theorem St9.refl : St9 P v W v W := ⟨rfl, rfl, rfl, Nat.le_refl _, fun _ _ _ _ => rfl, .inl rfl⟩
theorem St9.trans (h : St9 P v W v1 W1) (k : St9 P v1 W1 v2 W2) : St9 P v W v2 W2 := by
  refine ⟨k.os.trans h.os, k.tape.trans h.tape, k.output.trans h.output, Nat.le_trans h.size k.size, fun j hj hp ho => ?_, ?_⟩
  · rw [k.block j (Nat.lt_of_lt_of_le hj h.size) hp (by
      rcases h.own with e | ⟨g, e, hg⟩
      · rw [e]; exact ho
      · rw [e]; intro he; injection he with he; omega)]
    exact h.block j hj hp ho
  · rcases k.own with e | ⟨g, e, hg⟩
    · rw [e]; exact h.own
    · exact .inr ⟨g, e, Nat.le_trans h.size hg⟩
theorem St9.below (hb : Below W.heap.size W W1) : St9 P v W v W1 := ⟨hb.os, hb.tape, hb.output, hb.size, fun j hj _ _ => hb.block j hj, .inl rfl⟩
theorem St9.cell (h : St9 P v W v1 W1) {g : Nat} (hg : g < W.heap.size) (hp : g ≠ P) (ho : some g ≠ v.ownBlock) (o : Nat) : W1.cell? ⟨g, o, none⟩ = W.cell? ⟨g, o, none⟩ := by
  unfold World.cell?
  rw [h.block g hg hp ho]
theorem St9.apart (h : St9 P v W v1 W1) {g : Nat} (hg : g < W.heap.size) (ho : some g ≠ v.ownBlock) : some g ≠ v1.ownBlock := by
  rcases h.own with e | ⟨k, e, hk⟩
  · rw [e]; exact ho
  · rw [e]; intro he; injection he with he; omega
theorem St9.push {xs ys : List ByteArray} (h : LK P v xs W) (hg : W.grownBy W1 v.ownBlock) (hat : v1.ownBlock = v.ownBlock ∨ ∃ g, v1.ownBlock = some g ∧ W.heap.size ≤ g) : St9 P v W v1 (W1.setCell ⟨P, 0, none⟩ v1) := by
  refine ⟨hg.os, hg.tape, hg.output, by simp [World.setCell]; exact hg.size, fun j hj hp ho => ?_, hat⟩
  unfold World.setCell
  simp only [Array.getElem?_modify]
  rw [if_neg (fun e => hp e.symm)]
  exact hg.block j hj ho
theorem LK.below {xs : List ByteArray} (h : LK P v xs W) (hb : Below W.heap.size W W1) : LK P v xs W1 := by
  obtain ⟨h1, h2, h3, h4⟩ := h
  refine ⟨(hb.cell (p := ⟨P, 0, none⟩) h3).trans h1, ?_, Nat.lt_of_lt_of_le h3 hb.size, h4.below hb⟩
  unfold World.frozen?
  rw [hb.block P h3]
  exact h2
end
end Go.Proofs.YtmfcknlpbliehaaDoor
