/- Texts behind a beginning; a slice variable behind a pointer that texts are put into. -/
import Derived.Test.YtlgiamgjimffnaaSOwn
namespace Go.Proofs.Ytlgiamgjimffnaa
open Go.RowKit
/-- texts behind a beginning -/
def behind (s : ByteArray) (L : List (List UInt8)) : List ByteArray := L.map fun t => s ++ (⟨t.toArray⟩ : ByteArray)
theorem behind_cons (s : ByteArray) (c : UInt8) (L : List (List UInt8)) : behind s (L.map fun t => c :: t) = behind (s ++ (⟨#[c]⟩ : ByteArray)) L := by
  unfold behind
  rw [List.map_map]
  apply List.map_congr_left
  intro t _
  apply ByteArray.ext
  simp
theorem behind_app (s : ByteArray) (L M : List (List UInt8)) : behind s (L ++ M) = behind s L ++ behind s M := by simp [behind]
theorem behind_nil (s : ByteArray) : behind s [[]] = [s] := by
  show [s ++ (⟨#[]⟩ : ByteArray)] = [s]
  congr 1
  apply ByteArray.ext
  simp
theorem behind_none (L : List (List UInt8)) : behind ByteArray.empty L = L.map fun t => ⟨t.toArray⟩ := by
  unfold behind
  apply List.map_congr_left
  intro t _
  apply ByteArray.ext
  simp
theorem cell_grownL {w w' : World} {row : Option Nat} (h : w.grownBy w' row) {b : Nat} (hb : b < w.heap.size) (hne : some b ≠ row) (o : Nat) : w'.cell? ⟨b, o, none⟩ = w.cell? ⟨b, o, none⟩ := by
  unfold World.cell?
  rw [h.block b hb hne]
theorem frozen_grownL {w w' : World} {row : Option Nat} (h : w.grownBy w' row) {b : Nat} (hb : b < w.heap.size) (hne : some b ≠ row) (o : Nat) : w'.frozen? ⟨b, o, none⟩ = w.frozen? ⟨b, o, none⟩ := by
  unfold World.frozen?
  rw [h.block b hb hne]
/-- a slice variable at p that holds such texts, its row behind it -/
def LK (p : Nat) (v : Value) (xs : List ByteArray) (W : World) : Prop := W.cell? ⟨p, 0, none⟩ = some v ∧ W.frozen? ⟨p, 0, none⟩ = false ∧ p < W.heap.size ∧ SRow W (p + 1) v xs
def LookRet (p : Nat) (xs : List ByteArray) (W : World) (e : Ending) (W' : World) : Prop := e = .returned (.tuple #[]) ∧ ∃ v', LK p v' xs W' ∧ Below p W W'
theorem LK.push {p : Nat} {v v' : Value} {xs ys : List ByteArray} {W W' : World} (h : LK p v xs W) (hg : W.grownBy W' v.ownBlock) (hr : SRow W' (p + 1) v' ys) :
    LK p v' ys (W'.setCell ⟨p, 0, none⟩ v') ∧ Below p W (W'.setCell ⟨p, 0, none⟩ v') := by
  obtain ⟨h1, h2, h3, h4⟩ := h
  have hlow : ∀ q, v.ownBlock = some q → p + 1 ≤ q := fun q hq => (h4.blk q hq).1
  have hnp : some p ≠ v.ownBlock := fun e => by have := hlow p e.symm; omega
  have hc : W'.cell? ⟨p, 0, none⟩ = some v := (cell_grownL hg h3 hnp 0).trans h1
  have hf : W'.frozen? ⟨p, 0, none⟩ = false := (frozen_grownL hg h3 hnp 0).trans h2
  have hsz : (W'.setCell ⟨p, 0, none⟩ v').heap.size = W'.heap.size := by simp [World.setCell]
  have hgr : W'.grownBy (W'.setCell ⟨p, 0, none⟩ v') (some p) := by
    refine ⟨rfl, rfl, rfl, by rw [hsz]; omega, fun i hi hne => ?_⟩
    unfold World.setCell
    simp only [Array.getElem?_modify]
    rw [if_neg (fun e => hne (by rw [e]))]
  refine ⟨⟨World.cell?_setCell_same W' ⟨p, 0, none⟩ v' hc, by rw [World.frozen?_setCell]; exact hf, by rw [hsz]; exact Nat.lt_of_lt_of_le h3 hg.size, ?_⟩, ?_⟩
  · exact World.ownsRow.kept hr hgr (by
      cases e : v'.ownBlock with
      | none => exact .inl rfl
      | some q =>
        right
        intro e2
        have := (hr.blk q e).1
        injection e2 with e3
        omega)
  · exact ((Below.refl p W).grown hg (by omega) (fun q hq => by have := hlow q hq; omega)).setCell (Nat.le_refl _) _
end Go.Proofs.Ytlgiamgjimffnaa
