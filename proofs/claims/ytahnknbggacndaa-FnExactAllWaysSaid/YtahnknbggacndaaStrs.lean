/- eqStringS, markStringS, heldStringS: the laws' own helpers on slices of strings. -/
import Derived.Test.YtahnknbggacndaaSOwn
import Derived.Test.YtahnknbggacndaaMarkText
import Derived.Test.YtahnknbggacndaaLists
import Derived.Deep.RegionHeld3
namespace Go.Proofs.Ytahnknbggacndaa
open Go.RowKit

/-- the texts m, m+1, .. -/
def smarks (m : Nat) (n : Nat) : List ByteArray := (List.range n).map fun j => mt (m + j)
theorem smarks_length (m n : Nat) : (smarks m n).length = n := by simp [smarks]
theorem smarks_get (m n k : Nat) (h : k < n) : (smarks m n).getD k ByteArray.empty = mt (m + k) := by
  unfold smarks; rw [List.getD_eq_getElem?_getD, List.getElem?_map, List.getElem?_range h]; rfl
/-- the first k are marked -/
def SMarked (ys : List ByteArray) (m n k : Nat) : Prop := ys.length = n ∧ ∀ j, j < k → ys.getD j ByteArray.empty = mt (m + j)
theorem SMarked.zero {ys : List ByteArray} {n : Nat} (m : Nat) (h : ys.length = n) : SMarked ys m n 0 := ⟨h, fun _ h => absurd h (by omega)⟩
theorem SMarked.succ {ys : List ByteArray} {m n k : Nat} (h : SMarked ys m n k) (hk : k < n) : SMarked (ys.set k (mt (m + k))) m n (k + 1) := by
  refine ⟨by rw [List.length_set]; exact h.1, fun j hj => ?_⟩
  rw [List.getD_eq_getElem?_getD, List.getElem?_set]
  by_cases e : k = j
  · subst e; rw [if_pos rfl, if_pos (by rw [h.1]; exact hk)]; rfl
  · rw [if_neg e, ← List.getD_eq_getElem?_getD]; exact h.2 j (by omega)
theorem SMarked.full {ys : List ByteArray} {m n k : Nat} (h : SMarked ys m n k) (hk : k = n) : ys = smarks m n := by
  subst hk
  apply List.ext_getElem
  · rw [h.1, smarks_length]
  · intro j h1 h2
    have a := h.2 j (by rw [h.1] at h1; exact h1)
    have b := smarks_get m k j (by rw [h.1] at h1; exact h1)
    rw [List.getD_eq_getElem?_getD, List.getElem?_eq_getElem h1] at a
    rw [List.getD_eq_getElem?_getD, List.getElem?_eq_getElem h2] at b
    simp at a b
    rw [a, b]
theorem below_grown {w w' : World} (hb : Below w.heap.size w w') (r : Option Nat) : w.grownBy w' r := ⟨hb.os, hb.tape, hb.output, hb.size, fun k hk _ => hb.block k hk⟩

theorem keepS {w0 W W' : World} {g k : Nat} {x : Value} (h : W.cell? ⟨g, k, none⟩ = some x ∧ Below w0.heap.size w0 W) (hg : g < w0.heap.size) (hb : Below W.heap.size W W') : W'.cell? ⟨g, k, none⟩ = some x ∧ Below w0.heap.size w0 W' :=
  ⟨(hb.cell (p := ⟨g, k, none⟩) (Nat.lt_of_lt_of_le hg h.2.size)).trans h.1, h.2.trans (hb.mono h.2.size)⟩
theorem keepB {w0 W : World} {g k : Nat} {x : Value} (h : W.cell? ⟨g, k, none⟩ = some x ∧ Below w0.heap.size w0 W) : Below w0.heap.size w0 W := h.2
end Go.Proofs.Ytahnknbggacndaa
