/- Pack 19 of what FnExactFirstApart needs: PcS, NcE. -/
import Derived.Test.YtnlmjeakdjmohaaKFnExactFirstApart18
/- The walk of placesOf: words. -/
namespace Go.Proofs.Ytnlmjeakdjmohaa
open Go.RowKit
set_option linter.unusedVariables false
theorem PRow.kept_ne {w w' : World} {B n : Nat} {v : Value} {xs : List Int} {r : Nat} (h : PRow w B v n xs) (hg : w.grownBy w' (some r)) (hne : ∀ q, v.ownBlock = some q → q ≠ r) : PRow w' B v n xs :=
  ⟨World.ownsRow.kept h.1 hg (by
    cases e : v.ownBlock with
    | none => exact .inl rfl
    | some k =>
      right
      intro e2
      injection e2 with e2
      exact hne k e e2), h.2⟩
theorem one_place (w : World) (x y : Int) : PRow (w.alloc (.cells #[.int .i64 x, .int .i64 y] 103)) w.heap.size (.slice (some ⟨w.heap.size, 0, none⟩) 1 1) 1 [x, y] :=
  ⟨World.ownsRow_lit w #[.int .i64 x, .int .i64 y] 1 (Nat.le_refl _) (by simp [maxLen]) rfl, rfl⟩
/-- the walk along a way: where it has come to, and the cells so far -/
structure PcAt (w wa : World) (x y : Int) (s : ByteArray) (b : Nat) (o : Value) (n : Nat) (xs : List Int) (px py : Int) (X : World) : Prop where
  box : WBox w x y s X
  row : PRow X wa.heap.size o n xs
  ne : ∀ q, o.ownBlock = some q → q ≠ b
  c0 : X.cell? ⟨b, 0, none⟩ = some (.int .i64 px)
  c1 : X.cell? ⟨b, 1, none⟩ = some (.int .i64 py)
  f0 : X.frozen? ⟨b, 0, none⟩ = false
  f1 : X.frozen? ⟨b, 1, none⟩ = false
  lt : b < X.heap.size
  lo : wa.heap.size ≤ b
  wlo : w.heap.size < wa.heap.size
namespace PcAt
variable {w wa X X' : World} {x y px py : Int} {s : ByteArray} {b n : Nat} {o : Value} {xs : List Int}
theorem kept0 (h : PcAt w wa x y s b o n xs px py X) (hb : Below X.heap.size X X') : PcAt w wa x y s b o n xs px py X' :=
  ⟨h.box.kept hb, h.row.below hb, h.ne, (hb.cell (p := ⟨b, 0, none⟩) h.lt).trans h.c0, (hb.cell (p := ⟨b, 1, none⟩) h.lt).trans h.c1, (hb.frozen (p := ⟨b, 0, none⟩) h.lt).trans h.f0, (hb.frozen (p := ⟨b, 1, none⟩) h.lt).trans h.f1, Nat.lt_of_lt_of_le h.lt hb.size, h.lo, h.wlo⟩
theorem put0 (h : PcAt w wa x y s b o n xs px py X) (u : Int) : PcAt w wa x y s b o n xs u py (X.setCell ⟨b, 0, none⟩ (.int .i64 u)) :=
  ⟨h.box.above (B := wa.heap.size) h.wlo ((Below.refl _ _).setCell (p := ⟨b, 0, none⟩) h.lo _), h.row.kept_ne (setCell_grown X ⟨b, 0, none⟩ _ rfl) h.ne, h.ne, World.cell?_setCell_same' _ _ _ (by rw [h.c0]; rfl), by rw [World.cell?_setCell_other _ _ _ _ (by simp)]; exact h.c1, by rw [World.frozen?_setCell]; exact h.f0, by rw [World.frozen?_setCell]; exact h.f1, by simpa [World.setCell] using h.lt, h.lo, h.wlo⟩
theorem put1 (h : PcAt w wa x y s b o n xs px py X) (u : Int) : PcAt w wa x y s b o n xs px u (X.setCell ⟨b, 1, none⟩ (.int .i64 u)) :=
  ⟨h.box.above (B := wa.heap.size) h.wlo ((Below.refl _ _).setCell (p := ⟨b, 1, none⟩) h.lo _), h.row.kept_ne (setCell_grown X ⟨b, 1, none⟩ _ rfl) h.ne, h.ne, by rw [World.cell?_setCell_other _ _ _ _ (by simp)]; exact h.c0, World.cell?_setCell_same' _ _ _ (by rw [h.c1]; rfl), by rw [World.frozen?_setCell]; exact h.f0, by rw [World.frozen?_setCell]; exact h.f1, by simpa [World.setCell] using h.lt, h.lo, h.wlo⟩
/-- an append -/
theorem push (h : PcAt w wa x y s b o n xs px py X) {v' : Value} {ys : List Int} (hr : PRow X' wa.heap.size v' (n + 1) ys) (hg : X.grownBy X' o.ownBlock) (hat : v'.ownBlock = o.ownBlock ∨ ∃ g, v'.ownBlock = some g ∧ X.heap.size ≤ g) : PcAt w wa x y s b v' (n + 1) ys px py X' := by
  have hblk : ∀ (q : Nat), q < X.heap.size → o.ownBlock ≠ some q → X'.heap[q]? = X.heap[q]? := fun q hq hn => hg.block q hq (fun e => hn e.symm)
  have hbn : o.ownBlock ≠ some b := fun e => h.ne b e rfl
  have hc : ∀ j, X'.cell? ⟨b, j, none⟩ = X.cell? ⟨b, j, none⟩ := fun j => by unfold World.cell?; rw [hblk b h.lt hbn]
  have hf : ∀ j, X'.frozen? ⟨b, j, none⟩ = X.frozen? ⟨b, j, none⟩ := fun j => by unfold World.frozen?; rw [hblk b h.lt hbn]
  have hbw : Below wa.heap.size X X' := (Below.refl _ _).grown hg (Nat.le_trans h.lo (Nat.le_of_lt h.lt)) (fun q hq => (h.row.blk q hq).1)
  exact ⟨h.box.above h.wlo hbw, hr, fun q hq => by
    rcases hat with e | ⟨g, e, hge⟩
    · rw [e] at hq; exact h.ne q hq
    · rw [e] at hq
      injection hq with hq
      have := h.lt
      omega, (hc 0).trans h.c0, (hc 1).trans h.c1, (hf 0).trans h.f0, (hf 1).trans h.f1, Nat.lt_of_lt_of_le h.lt hg.size, h.lo, h.wlo⟩
end PcAt
/-- a call that hands back a slice of places of its own and a bool -/
def PsRet (w : World) (ok : Bool) (n : Nat) (xs : List Int) (e : Ending) (w' : World) : Prop :=
  ∃ v, e = .returned (.tuple #[v, .bool ok]) ∧ PRow w' w.heap.size v n xs ∧ Below w.heap.size w w'
end Go.Proofs.Ytnlmjeakdjmohaa

/- The model's IsCell, IsWay, CellsOfWay, EndOfWay, CountWays. -/
namespace Go.Proofs.Ytnlmjeakdjmohaa
open Go.RowKit
set_option linter.unusedVariables false
def ewX (x y : Int) (s : ByteArray) : Int := if wayB x y s = true then cX s x s.size else 0
def ewY (x y : Int) (s : ByteArray) : Int := if wayB x y s = true then cY s y s.size else 0
/-- a way, and an empty cell behind it -/
structure WZ (w : World) (x y : Int) (s : ByteArray) (X : World) : Prop where
  box : WBox w x y s X
  z0 : X.cell? ⟨w.heap.size + 1, 0, none⟩ = some (.int .i64 0)
  z1 : X.cell? ⟨w.heap.size + 1, 1, none⟩ = some (.int .i64 0)
  f0 : X.frozen? ⟨w.heap.size + 1, 0, none⟩ = false
  f1 : X.frozen? ⟨w.heap.size + 1, 1, none⟩ = false
  lt : w.heap.size + 1 < X.heap.size
theorem WZ.kept {w X X' : World} {x y : Int} {s : ByteArray} (h : WZ w x y s X) (hb : Below X.heap.size X X') : WZ w x y s X' :=
  ⟨h.box.kept hb, (hb.cell (p := ⟨w.heap.size + 1, 0, none⟩) h.lt).trans h.z0, (hb.cell (p := ⟨w.heap.size + 1, 1, none⟩) h.lt).trans h.z1, (hb.frozen (p := ⟨w.heap.size + 1, 0, none⟩) h.lt).trans h.f0, (hb.frozen (p := ⟨w.heap.size + 1, 1, none⟩) h.lt).trans h.f1, Nat.lt_of_lt_of_le h.lt hb.size⟩
theorem WZ.start (w : World) (x y : Int) (s : ByteArray) : WZ w x y s ((w.alloc (.cells #[.int .i64 x, .int .i64 y, .string s] 56)).alloc (.cells #[.int .i64 0, .int .i64 0] 39)) :=
  ⟨(WBox.start w x y s).kept ((Below.refl _ _).alloc (Nat.le_refl _) _), by simp [go_sem], by simp [go_sem], by simp [go_sem], by simp [go_sem], by simp⟩
theorem WZ.done {w X : World} {x y : Int} {s : ByteArray} (h : WZ w x y s X) (u v : Int) :
    ((X.setCell ⟨w.heap.size + 1, 0, none⟩ (.int .i64 u)).setCell ⟨w.heap.size + 1, 1, none⟩ (.int .i64 v)).cell? ⟨w.heap.size + 1, 0, none⟩ = some (.int .i64 u) ∧ ((X.setCell ⟨w.heap.size + 1, 0, none⟩ (.int .i64 u)).setCell ⟨w.heap.size + 1, 1, none⟩ (.int .i64 v)).cell? ⟨w.heap.size + 1, 1, none⟩ = some (.int .i64 v) ∧
    Below w.heap.size w ((X.setCell ⟨w.heap.size + 1, 0, none⟩ (.int .i64 u)).setCell ⟨w.heap.size + 1, 1, none⟩ (.int .i64 v)) :=
  ⟨(World.cell?_setCell_other _ _ _ _ (by simp)).trans (World.cell?_setCell_same' _ _ _ (by rw [h.z0]; rfl)), World.cell?_setCell_same' _ _ _ (by rw [World.cell?_setCell_other _ _ _ _ (by simp), h.z1]; rfl),
    (h.box.below.setCell (p := ⟨w.heap.size + 1, 0, none⟩) (by show w.heap.size ≤ w.heap.size + 1; omega) _).setCell (p := ⟨w.heap.size + 1, 1, none⟩) (by show w.heap.size ≤ w.heap.size + 1; omega) _⟩
end Go.Proofs.Ytnlmjeakdjmohaa
