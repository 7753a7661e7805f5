/- Pack 32 of what FnExactRankOrdered needs: RacL, VrS. -/
import Derived.Test.YtmfcknlpbliehaaDoorKFnExactRankOrdered31
import Derived.Laws.CopyOwn
import Derived.Laws.Tables
/- raceTo: the race with a result. -/
namespace Go.Proofs.YtmfcknlpbliehaaDoor
open Go.RowKit
set_option linter.unusedVariables false
def rr (a b c d : Nat) : Nat → Nat | 0 => a | 1 => b | 2 => c | _ => d
theorem rr_sm {a b c d : Nat} (h1 : b ≤ a) (h2 : c ≤ b) (h3 : d ≤ c) (h : a + b + c + d ≤ 16) : sm (rr a b c d) := fun j hj => by
  have : j = 0 ∨ j = 1 ∨ j = 2 ∨ j = 3 := by omega
  rcases this with e | e | e | e <;> subst e <;> simp [rr] <;> omega
theorem rr_tot {a b c d : Nat} (h : a + b + c + d ≤ 16) : tot (rr a b c d) ≤ 16 := h
theorem intSz9 : (Tryd.prog.info? 3).map (fun i => i.size) = some 1 := by kernel_rfl
theorem stSz : (Tryd.prog.info? 38).map (·.size) = some 4 := by kernel_rfl
theorem raceSz : (Tryd.prog.info? 43).map (·.size) = some 5 := by kernel_rfl
theorem mapW_setRow {w : World} {mb g : Nat} {V : (Nat → Nat) → Nat} (h : MapW w mb V) (cs : Array Value) (hne : mb ≠ g) : MapW (w.setRow g cs) mb V := by
  obtain ⟨es, cl, h1, h2, h4⟩ := h
  refine ⟨es, cl, ?_, h2, h4⟩
  rw [← h1]
  exact setRow_other w g mb cs hne
end Go.Proofs.YtmfcknlpbliehaaDoor

/- The votes of a rank: what the walk keeps. -/
namespace Go.Proofs.YtmfcknlpbliehaaDoor
open Go.RowKit
set_option linter.unusedVariables false
def pCells (p : Nat → Nat) : Array Value := #[.int .i64 ((p 0 : Nat) : Int), .int .i64 ((p 1 : Nat) : Int), .int .i64 ((p 2 : Nat) : Int), .int .i64 ((p 3 : Nat) : Int)]
def rCells (R : Nat → Nat) (mb : Nat) : Array Value := #[.int .i64 ((R 0 : Nat) : Int), .int .i64 ((R 1 : Nat) : Int), .int .i64 ((R 2 : Nat) : Int), .int .i64 ((R 3 : Nat) : Int), .map (some mb)]
/-- the two boxes, the map, and what stays -/
structure VR (R p : Nat → Nat) (mb : Nat) (w W9 : World) : Prop where
  rc : W9.heap[w.heap.size]? = some (.cells (rCells R mb) 43 (0, 0))
  st : W9.heap[w.heap.size + 1]? = some (.cells (pCells p) 38 (0, 0))
  lt : mb < w.heap.size
  mp : MapW W9 mb (W R)
  gr : w.grownBy W9 (some mb)
section
variable {R p q : Nat → Nat} {mb : Nat} {w W9 W8 : World}
theorem VR.sz (h : VR R p mb w W9) : w.heap.size + 2 ≤ W9.heap.size := (Array.getElem?_eq_some_iff.1 h.st).1
theorem VR.step (h : VR R p mb w W9) (hm : MapW W8 mb (W R)) (hg : W9.grownBy W8 (some mb)) : VR R p mb w W8 := by
  have hz := h.sz
  have hl := h.lt
  have e : ∀ x, w.heap.size ≤ x → x < w.heap.size + 2 → W8.heap[x]? = W9.heap[x]? := fun x hx hx2 => hg.block x (by omega) (by intro he; injection he with he; omega)
  exact ⟨(e _ (by omega) (by omega)).trans h.rc, (e _ (by omega) (by omega)).trans h.st, hl, hm, grown_trans9 h.gr hg⟩
theorem VR.own (h : VR R p mb w W9) {r : Option Nat} (hg : W9.grownBy W8 r) (hr : ∀ j, r = some j → w.heap.size + 2 ≤ j) : VR R p mb w W8 := by
  have hz := h.sz
  have hl := h.lt
  have e : ∀ x, x < w.heap.size + 2 → W8.heap[x]? = W9.heap[x]? := fun x hx2 => hg.block x (by omega) (by intro he; have := hr x he.symm; omega)
  exact ⟨(e _ (by omega)).trans h.rc, (e _ (by omega)).trans h.st, hl, h.mp.kept hg (by intro he; have := hr mb he.symm; omega), ⟨hg.os.trans h.gr.os, hg.tape.trans h.gr.tape, hg.output.trans h.gr.output, Nat.le_trans h.gr.size hg.size, fun k hk hn => (e k (by omega)).trans (h.gr.block k hk hn)⟩⟩
theorem VR.below (h : VR R p mb w W9) (hb : Below W9.heap.size W9 W8) : VR R p mb w W8 := h.own (grown_of_below hb none) (fun j hj => by cases hj)
theorem VR.set (h : VR R p mb w W9) (q : Nat → Nat) : VR R q mb w (W9.setRow (w.heap.size + 1) (pCells q)) := by
  have hl := h.lt
  refine ⟨(setRow_other _ _ _ _ (by omega)).trans h.rc, setRow_heap _ _ _ _ _ _ h.st, hl, mapW_setRow h.mp _ (by omega), ⟨h.gr.os, h.gr.tape, h.gr.output, Nat.le_trans h.gr.size (by simp [World.setRow]), fun k hk hn => (setRow_other _ _ _ _ (by omega)).trans (h.gr.block k hk hn)⟩⟩
theorem VR.start (h : MapW w mb (W R)) : VR R p mb w ((w.alloc (.cells (rCells R mb) 43)).alloc (.cells (pCells p) 38)) := by
  have hb : Below w.heap.size w ((w.alloc (.cells (rCells R mb) 43)).alloc (.cells (pCells p) 38)) := ((Below.refl _ _).alloc (Nat.le_refl _) _).alloc (by simp) _
  refine ⟨?_, ?_, h.lt, h.below hb, grown_of_below hb _⟩
  · rw [((Below.refl (w.alloc (.cells (rCells R mb) 43)).heap.size _).alloc (Nat.le_refl _) _).block w.heap.size (by simp)]
    exact heap_alloc_new _ _
  · have := heap_alloc_new (w.alloc (.cells (rCells R mb) 43)) (.cells (pCells p) 38)
    simpa using this
theorem VR.cells (h : VR R p mb w W9) : (W9.cell? ⟨w.heap.size, 0, none⟩ = some (.int .i64 ((R 0 : Nat) : Int)) ∧ W9.cell? ⟨w.heap.size, 1, none⟩ = some (.int .i64 ((R 1 : Nat) : Int)) ∧ W9.cell? ⟨w.heap.size, 2, none⟩ = some (.int .i64 ((R 2 : Nat) : Int)) ∧ W9.cell? ⟨w.heap.size, 3, none⟩ = some (.int .i64 ((R 3 : Nat) : Int)) ∧ W9.cell? ⟨w.heap.size, 4, none⟩ = some (.map (some mb)) ∧
    W9.cell? ⟨w.heap.size + 1, 0, none⟩ = some (.int .i64 ((p 0 : Nat) : Int)) ∧ W9.cell? ⟨w.heap.size + 1, 1, none⟩ = some (.int .i64 ((p 1 : Nat) : Int)) ∧ W9.cell? ⟨w.heap.size + 1, 2, none⟩ = some (.int .i64 ((p 2 : Nat) : Int)) ∧ W9.cell? ⟨w.heap.size + 1, 3, none⟩ = some (.int .i64 ((p 3 : Nat) : Int))) := by
  have h1 := h.rc
  have h2 := h.st
  unfold rCells at h1
  unfold pCells at h2
  refine ⟨?_, ?_, ?_, ?_, ?_, ?_, ?_, ?_, ?_⟩ <;> simp [World.cell?, h1, h2]
theorem BOwn.map {v : Value} {B : Nat} {xs : List UInt8} (h : BOwn W9 B v xs) (hg : W9.grownBy W8 (some mb)) (hm : mb < B) : BOwn W8 B v xs := by
  rcases h with ⟨h1, h2⟩
  refine ⟨h1, ?_⟩
  rcases h2 with h3 | ⟨g, cap, cur, e1, e2, e3, e4⟩
  · exact .inl h3
  · exact .inr ⟨g, cap, cur, e1, e2, (hg.block g (Array.getElem?_eq_some_iff.1 e3).1 (by intro he; injection he with he; omega)).trans e3, e4⟩
end
def lett (l : List Nat) : List UInt8 := l.map fun c => UInt8.ofNat (97 + c)
end Go.Proofs.YtmfcknlpbliehaaDoor
