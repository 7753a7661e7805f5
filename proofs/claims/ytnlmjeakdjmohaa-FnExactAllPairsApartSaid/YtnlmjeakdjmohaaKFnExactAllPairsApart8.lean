/- Pack 8 of what FnExactAllPairsApart needs: NcS, WgS. -/
import Derived.Test.YtnlmjeakdjmohaaKFnExactAllPairsApart7
/- The model's ncCell, ncCells; IsCell, IsWay, CellsOfWay, EndOfWay. -/
namespace Go.Proofs.Ytnlmjeakdjmohaa
open Go.RowKit
set_option linter.unusedVariables false
abbrev celV (x y : Int) : Value := .agg #[.int .i64 x, .int .i64 y]
abbrev wayV (x y : Int) (s : ByteArray) : Value := .agg #[.int .i64 x, .int .i64 y, .string s]
theorem ncCell_any (x y : Int) (w : World) : Calls Try.prog 80 #[celV x y] w (Ret w (.bool (cellB x y))) := by
  have H1 : Hid (∀ w, Calls Try.prog 125 #[.int .i64 x, .int .i64 0, .int .i64 12] w fun e w' => e = .returned (.bool (inBd 0 12 x)) ∧ w = w') := Lib.hid fun w => in_any x 0 12 w
  have H2 : Hid (∀ w, Calls Try.prog 125 #[.int .i64 y, .int .i64 0, .int .i64 12] w fun e w' => e = .returned (.bool (inBd 0 12 y)) ∧ w = w') := Lib.hid fun w => in_any y 0 12 w
  have hb0 : Below w.heap.size w (w.alloc (.cells #[.int .i64 x, .int .i64 y] 39)) := (Below.refl _ _).alloc (Nat.le_refl _) _
  unfold cellB
  rcases Bool.eq_false_or_eq_true (inBd 0 12 x) with a1 | a1
  · rw [a1] at H1 ⊢
    generalize inBd 0 12 y = b at *
    clear a1
    have tok1 : True := trivial
    go_enter Try.func80, Try.ntmps80
    go_wp2_with (first | (have _t := tok1; go_at_call 125; clear _t tok1; refine (H1.out _).mono ?_; rintro e w' ⟨rfl, rfl⟩) | (go_at_call 125; refine (H2.out _).mono ?_; rintro e w' ⟨rfl, rfl⟩))
    go_ret
    exact ⟨by simp, hb0⟩
  · rw [a1] at H1 ⊢
    clear a1
    go_enter Try.func80, Try.ntmps80
    go_wp2_with (go_at_call 125; refine (H1.out _).mono ?_; rintro e w' ⟨rfl, rfl⟩)
    go_ret
    exact ⟨by simp, hb0⟩
/-- a way in its box -/
structure WBox (w : World) (x y : Int) (s : ByteArray) (X : World) : Prop where
  c0 : X.cell? ⟨w.heap.size, 0, none⟩ = some (.int .i64 x)
  c1 : X.cell? ⟨w.heap.size, 1, none⟩ = some (.int .i64 y)
  c2 : X.cell? ⟨w.heap.size, 2, none⟩ = some (.string s)
  lt : w.heap.size < X.heap.size
  below : Below w.heap.size w X
theorem WBox.kept {w X X' : World} {x y : Int} {s : ByteArray} (h : WBox w x y s X) (hb : Below X.heap.size X X') : WBox w x y s X' :=
  ⟨(hb.cell (p := ⟨w.heap.size, 0, none⟩) h.lt).trans h.c0, (hb.cell (p := ⟨w.heap.size, 1, none⟩) h.lt).trans h.c1, (hb.cell (p := ⟨w.heap.size, 2, none⟩) h.lt).trans h.c2, Nat.lt_of_lt_of_le h.lt hb.size, h.below.trans (hb.mono h.below.size)⟩
theorem WBox.start (w : World) (x y : Int) (s : ByteArray) : WBox w x y s (w.alloc (.cells #[.int .i64 x, .int .i64 y, .string s] 56)) :=
  ⟨by simp [go_sem], by simp [go_sem], by simp [go_sem], by simp, (Below.refl _ _).alloc (Nat.le_refl _) _⟩
/-- what is turned lies above the box -/
theorem WBox.above {w X X' : World} {x y : Int} {s : ByteArray} {B : Nat} (h : WBox w x y s X) (hB : w.heap.size < B) (hb : Below B X X') : WBox w x y s X' :=
  ⟨(hb.cell (p := ⟨w.heap.size, 0, none⟩) hB).trans h.c0, (hb.cell (p := ⟨w.heap.size, 1, none⟩) hB).trans h.c1, (hb.cell (p := ⟨w.heap.size, 2, none⟩) hB).trans h.c2, Nat.lt_of_lt_of_le h.lt hb.size, h.below.trans (hb.mono (Nat.le_of_lt hB))⟩
theorem CRow.kept_ne {w w' : World} {B n : Nat} {v : Value} {xs : List Int} {r : Nat} (h : CRow w B v n xs) (hg : w.grownBy w' (some r)) (hne : ∀ q, v.ownBlock = some q → q ≠ r) : CRow w' B v n xs :=
  ⟨World.ownsRow.kept h.1 hg (by
    cases e : v.ownBlock with
    | none => exact .inl rfl
    | some k =>
      right
      intro e2
      injection e2 with e2
      exact hne k e e2), h.2⟩
theorem one_cell (w : World) (x y : Int) : CRow (w.alloc (.cells #[.int .i64 x, .int .i64 y] 39)) w.heap.size (.slice (some ⟨w.heap.size, 0, none⟩) 1 1) 1 [x, y] :=
  ⟨World.ownsRow_lit w #[.int .i64 x, .int .i64 y] 1 (Nat.le_refl _) (by simp [maxLen]) rfl, rfl⟩
/-- the walk along a way: where it has come to, and the cells so far -/
structure NcAt (w wa : World) (x y : Int) (s : ByteArray) (b : Nat) (o : Value) (n : Nat) (xs : List Int) (px py : Int) (X : World) : Prop where
  box : WBox w x y s X
  row : CRow X wa.heap.size o n xs
  ne : ∀ q, o.ownBlock = some q → q ≠ b
  c0 : X.cell? ⟨b, 0, none⟩ = some (.int .i64 px)
  c1 : X.cell? ⟨b, 1, none⟩ = some (.int .i64 py)
  f0 : X.frozen? ⟨b, 0, none⟩ = false
  f1 : X.frozen? ⟨b, 1, none⟩ = false
  lt : b < X.heap.size
  lo : wa.heap.size ≤ b
  wlo : w.heap.size < wa.heap.size
namespace NcAt
variable {w wa X X' : World} {x y px py : Int} {s : ByteArray} {b n : Nat} {o : Value} {xs : List Int}
theorem kept0 (h : NcAt w wa x y s b o n xs px py X) (hb : Below X.heap.size X X') : NcAt w wa x y s b o n xs px py X' :=
  ⟨h.box.kept hb, h.row.below hb, h.ne, (hb.cell (p := ⟨b, 0, none⟩) h.lt).trans h.c0, (hb.cell (p := ⟨b, 1, none⟩) h.lt).trans h.c1, (hb.frozen (p := ⟨b, 0, none⟩) h.lt).trans h.f0, (hb.frozen (p := ⟨b, 1, none⟩) h.lt).trans h.f1, Nat.lt_of_lt_of_le h.lt hb.size, h.lo, h.wlo⟩
theorem put0 (h : NcAt w wa x y s b o n xs px py X) (u : Int) : NcAt w wa x y s b o n xs u py (X.setCell ⟨b, 0, none⟩ (.int .i64 u)) :=
  ⟨h.box.above (B := wa.heap.size) h.wlo ((Below.refl _ _).setCell (p := ⟨b, 0, none⟩) h.lo _), h.row.kept_ne (setCell_grown X ⟨b, 0, none⟩ _ rfl) h.ne, h.ne, World.cell?_setCell_same' _ _ _ (by rw [h.c0]; rfl), by rw [World.cell?_setCell_other _ _ _ _ (by simp)]; exact h.c1, by rw [World.frozen?_setCell]; exact h.f0, by rw [World.frozen?_setCell]; exact h.f1, by simpa [World.setCell] using h.lt, h.lo, h.wlo⟩
theorem put1 (h : NcAt w wa x y s b o n xs px py X) (u : Int) : NcAt w wa x y s b o n xs px u (X.setCell ⟨b, 1, none⟩ (.int .i64 u)) :=
  ⟨h.box.above (B := wa.heap.size) h.wlo ((Below.refl _ _).setCell (p := ⟨b, 1, none⟩) h.lo _), h.row.kept_ne (setCell_grown X ⟨b, 1, none⟩ _ rfl) h.ne, h.ne, by rw [World.cell?_setCell_other _ _ _ _ (by simp)]; exact h.c0, World.cell?_setCell_same' _ _ _ (by rw [h.c1]; rfl), by rw [World.frozen?_setCell]; exact h.f0, by rw [World.frozen?_setCell]; exact h.f1, by simpa [World.setCell] using h.lt, h.lo, h.wlo⟩
/-- an append -/
theorem push (h : NcAt w wa x y s b o n xs px py X) {v' : Value} {ys : List Int} (hr : CRow X' wa.heap.size v' (n + 1) ys) (hg : X.grownBy X' o.ownBlock) (hat : v'.ownBlock = o.ownBlock ∨ ∃ g, v'.ownBlock = some g ∧ X.heap.size ≤ g) : NcAt w wa x y s b v' (n + 1) ys px py X' := by
  have hblk : ∀ (q : Nat), q < X.heap.size → o.ownBlock ≠ some q → X'.heap[q]? = X.heap[q]? := fun q hq hn => hg.block q hq (fun e => hn e.symm)
  have hbn : o.ownBlock ≠ some b := fun e => h.ne b e rfl
  have hc : ∀ j, X'.cell? ⟨b, j, none⟩ = X.cell? ⟨b, j, none⟩ := fun j => by unfold World.cell?; rw [hblk b h.lt hbn]
  have hf : ∀ j, X'.frozen? ⟨b, j, none⟩ = X.frozen? ⟨b, j, none⟩ := fun j => by unfold World.frozen?; rw [hblk b h.lt hbn]
  have hbw : Below wa.heap.size X X' := (Below.refl _ _).grown hg (Nat.le_trans h.lo (Nat.le_of_lt h.lt)) (fun q hq => (h.row.blk q hq).1)
  exact ⟨h.box.above h.wlo hbw, hr, fun q hq => by
    rcases hat with e | ⟨g, e, hge⟩
    · rw [e] at hq; exact h.ne q hq
    · rw [e] at hq
      injection hq with hq
      have := h.lt
      omega, (hc 0).trans h.c0, (hc 1).trans h.c1, (hf 0).trans h.f0, (hf 1).trans h.f1, Nat.lt_of_lt_of_le h.lt hg.size, h.lo, h.wlo⟩
end NcAt
end Go.Proofs.Ytnlmjeakdjmohaa

/- Lists of ways; ways that are only read. -/
namespace Go.Proofs.Ytnlmjeakdjmohaa
open Go.RowKit
set_option linter.unusedVariables false
abbrev Wy := Int × Int × ByteArray
def wg (L : List Wy) (j : Nat) : Wy := L.getD j (0, 0, ⟨#[]⟩)
/-- a slice of ways that is only read -/
structure RWays (w : World) (v : Value) (n : Nat) (L : List Wy) : Prop where
  shape : ∃ A c, v = .slice A n c
  room : ∀ A k c, v = .slice A k c → k ≤ c ∧ c ≤ maxLen
  small : ∀ j, j < n → (wg L j).2.2.size ≤ maxLen
  cells : 0 < n → ∃ g o c, v = .slice (some ⟨g, o, none⟩) n c ∧ g < w.heap.size ∧ ∀ j, j < n → w.cell? ⟨g, o + j * 3, none⟩ = some (.int .i64 (wg L j).1) ∧ w.cell? ⟨g, o + j * 3 + 1, none⟩ = some (.int .i64 (wg L j).2.1) ∧ w.cell? ⟨g, o + j * 3 + 2, none⟩ = some (.string (wg L j).2.2)
theorem RWays.below {w w' : World} {v : Value} {n : Nat} {L : List Wy} (h : RWays w v n L) (hb : Below w.heap.size w w') : RWays w' v n L :=
  ⟨h.shape, h.room, h.small, fun hx => by
    obtain ⟨g, o, c, hv, hg, hc⟩ := h.cells hx
    exact ⟨g, o, c, hv, Nat.lt_of_lt_of_le hg hb.size, fun j hj => ⟨(hb.cell (p := ⟨g, o + j * 3, none⟩) hg).trans (hc j hj).1, (hb.cell (p := ⟨g, o + j * 3 + 1, none⟩) hg).trans (hc j hj).2.1, (hb.cell (p := ⟨g, o + j * 3 + 2, none⟩) hg).trans (hc j hj).2.2⟩⟩⟩
theorem RWays.at {w : World} {n : Nat} {L : List Wy} {g o c : Nat} (h : RWays w (.slice (some ⟨g, o, none⟩) n c) n L) {j : Nat} (hj : j < n) :
    w.cell? ⟨g, o + j * 3, none⟩ = some (.int .i64 (wg L j).1) ∧ w.cell? ⟨g, o + j * 3 + 1, none⟩ = some (.int .i64 (wg L j).2.1) ∧ w.cell? ⟨g, o + j * 3 + 2, none⟩ = some (.string (wg L j).2.2) := by
  obtain ⟨g', o', c', e, _, hc⟩ := h.cells (by omega)
  injection e with e _ e3
  injection e with e
  injection e with e1 e2
  subst e1 e2
  exact hc j hj
end Go.Proofs.Ytnlmjeakdjmohaa
