/- Pack 10 of what FnFansAndCubes needs: InList, LvLaw, NcS. -/
import Derived.Test.YtmfcknlpbliehabKFnFansAndCubes9
import Derived.Handy
/- A slice of ints that came in, or is only read; toIntS, the laws' copy. -/
namespace Go.Proofs.Ytmfcknlpbliehab
open Go.RowKit
set_option linter.unusedVariables false
/-- a slice of ints that came in: nil, or a row of cap numbers of which the first len are its elements -/
def IsInts (w : World) (a : Option Addr) (len cap : Nat) (zs : List Int) : Prop :=
  (a = none ∧ len = 0 ∧ cap = 0 ∧ zs = []) ∨
  ∃ x, a = some x ∧ len ≤ cap ∧ cap ≤ maxLen ∧ zs.length = cap ∧ (∀ i, i < zs.length → w.cell? (x.add i) = some (.int .i64 (zs.getD i 0))) ∧ ∀ n ∈ zs, (Lit.int .i64 n).wf = true
/-- a slice of ints that is only read: its elements are xs -/
structure RInts (w : World) (v : Value) (xs : List Int) : Prop where
  shape : ∃ A c, v = .slice A xs.length c
  room : ∀ A n c, v = .slice A n c → n ≤ c ∧ c ≤ maxLen
  cells : 0 < xs.length → ∃ g o c, v = .slice (some ⟨g, o, none⟩) xs.length c ∧ g < w.heap.size ∧ ∀ j, j < xs.length → w.cell? ⟨g, o + j, none⟩ = some (.int .i64 (xs.getD j 0))
theorem RInts.below {w w' : World} {v : Value} {xs : List Int} (h : RInts w v xs) (hb : Below w.heap.size w w') : RInts w' v xs :=
  ⟨h.shape, h.room, fun hx => by
    obtain ⟨g, o, c, hv, hg, hc⟩ := h.cells hx
    exact ⟨g, o, c, hv, Nat.lt_of_lt_of_le hg hb.size, fun j hj => (hb.cell (p := ⟨g, o + j, none⟩) hg).trans (hc j hj)⟩⟩
theorem RInts.of_row {w : World} {B : Nat} {v : Value} {xs : List Int} (h : IRow w B v xs) : RInts w v xs :=
  ⟨h.shape, fun A n c e => by
    rcases h.2 with ⟨h1, _⟩ | ⟨g, cap, cur, h1, _, _, h2, h3, _⟩
    · rw [h1] at e
      injection e with e1 e2 e3
      subst e2 e3
      exact ⟨Nat.le_refl _, by simp [maxLen]⟩
    · rw [h1] at e
      injection e with e1 e2 e3
      subst e2 e3
      exact ⟨h2, h3⟩, fun hx => by
    obtain ⟨g, c, hv, _, hg⟩ := h.form' rfl hx
    subst hv
    exact ⟨g, 0, c, rfl, hg, fun j hj => by rw [Nat.zero_add]; exact h.cell hj⟩⟩
theorem RInts.of_in {w : World} {a : Option Addr} {len cap : Nat} {zs : List Int} (h : IsInts w a len cap zs) : RInts w (.slice a len cap) (zs.take len) := by
  rcases h with ⟨rfl, rfl, rfl, rfl⟩ | ⟨x, rfl, hl, hm, hz, hcell, _⟩
  · exact ⟨⟨_, _, rfl⟩, fun A n c e => by injection e with e1 e2 e3; subst e2 e3; exact ⟨Nat.le_refl _, by simp [maxLen]⟩, fun h => absurd h (by simp)⟩
  · have hlen : (zs.take len).length = len := by rw [List.length_take]; omega
    refine ⟨⟨some x, cap, by rw [hlen]⟩, fun A n c e => by injection e with e1 e2 e3; subst e2 e3; exact ⟨hl, hm⟩, fun hx => ?_⟩
    rw [hlen] at hx
    obtain ⟨b, off, spot⟩ := x
    have h0 := hcell 0 (by omega)
    have hspot : spot = none := by simpa [Addr.add] using World.cell?_spot h0
    subst hspot
    refine ⟨b, off, cap, by rw [hlen], World.block_lt_of_cell? w _ h0, fun j hj => ?_⟩
    rw [hlen] at hj
    have := hcell j (by omega)
    have e : (⟨b, off, none⟩ : Addr).add j = ⟨b, off + j, none⟩ := by unfold Addr.add; split <;> simp_all
    rw [e] at this
    rw [this, List.getD_eq_getElem?_getD, List.getD_eq_getElem?_getD, List.getElem?_take, if_pos hj]
/-- the first k copied -/
def copied (xs : List Int) (k : Nat) : List Int := xs.take k ++ List.replicate (xs.length - k) 0
theorem copied_length (xs : List Int) (k : Nat) (h : k ≤ xs.length) : (copied xs k).length = xs.length := by simp [copied]; omega
theorem copied_set (xs : List Int) (k : Nat) (h : k < xs.length) : (copied xs k).set k (xs.getD k 0) = copied xs (k + 1) := by
  unfold copied
  rw [List.take_succ_eq_append_getElem h, List.set_append, List.length_take, if_neg (by omega), show k - min k xs.length = 0 by omega,
    show xs.length - k = (xs.length - (k + 1)) + 1 by omega, List.replicate_succ, List.set_cons_zero, List.getD_eq_getElem?_getD, List.getElem?_eq_getElem h, List.append_assoc]
  rfl
theorem copied_full (xs : List Int) : copied xs xs.length = xs := by simp [copied]
/-- two rows: the one above, the other below -/
theorem IRow.grown_over {w w' : World} {B B2 : Nat} {v v2 : Value} {xs : List Int} (h : IRow w B v xs) (hg : w.grownBy w' v2.ownBlock) (hv : ∀ k, v.ownBlock = some k → B2 ≤ k) (hv2 : ∀ k, v2.ownBlock = some k → k < B2) : IRow w' B v xs :=
  World.ownsRow.kept h hg (by
    cases e : v.ownBlock with
    | none => exact .inl rfl
    | some k =>
      right
      intro e2
      have a := hv k e
      have b := hv2 k e2.symm
      omega)
end Go.Proofs.Ytmfcknlpbliehab

/- The laws' own words on levels: copies, sizes, comparisons. -/
namespace Go.Proofs.Ytmfcknlpbliehab
open Go.RowKit
set_option linter.unusedVariables false
theorem setCell_grown (W : World) (p : Addr) (v : Value) (hs : p.spot = none) : W.grownBy (W.setCell p v) (some p.block) := by
  have hsz : (W.setCell p v).heap.size = W.heap.size := by simp [World.setCell]
  refine ⟨rfl, rfl, rfl, by rw [hsz]; omega, fun i hi hne => ?_⟩
  unfold World.setCell
  simp only [Array.getElem?_modify]
  rw [if_neg (fun e => hne (by rw [e]))]
theorem IRow.low {w : World} {B : Nat} {v : Value} {xs : List Int} (h : IRow w B v xs) (p : Addr) (hs : p.spot = none) (hp : p.block < B) (x : Value) : IRow (w.setCell p x) B v xs :=
  World.ownsRow.kept h (setCell_grown w p x hs) (by
    cases e : v.ownBlock with
    | none => exact .inl rfl
    | some k =>
      right
      intro e2
      have := (h.blk k e).1
      injection e2 with e3
      omega)
def szLv (left : Int) (n m : Nat) : Int := if left - n < 0 then -1 else if left - n - m < 0 then -1 else left - n - m
/-- a copy of levels: two rows of the call's own -/
def LevNew (w : World) (fs ds : List Int) (e : Ending) (w' : World) : Prop :=
  ∃ v u, e = .returned (.agg #[v, u]) ∧ IRow w' w.heap.size v fs ∧ IRow w' w.heap.size u ds ∧ (∀ q, v.ownBlock = some q → u.ownBlock ≠ some q) ∧ Below w.heap.size w w'
/-- levels that are only read -/
def RLev (w : World) (x : Value) (fs ds : List Int) : Prop := ∃ v u, x = .agg #[v, u] ∧ RInts w v fs ∧ RInts w u ds
theorem RLev.below {w w' : World} {x : Value} {fs ds : List Int} (h : RLev w x fs ds) (hb : Below w.heap.size w w') : RLev w' x fs ds := by
  obtain ⟨v, u, e, h1, h2⟩ := h
  exact ⟨v, u, e, h1.below hb, h2.below hb⟩
theorem RInts.max {w : World} {v : Value} {xs : List Int} (h : RInts w v xs) : xs.length ≤ 9223372036854775807 := by
  obtain ⟨A, c, rfl⟩ := h.shape
  have := h.room _ _ _ rfl
  unfold maxLen at this
  omega
theorem szLv_no {n m : Nat} (h : ¬ (n + m ≤ 1048576)) : szLv 1048576 n m < 0 := by
  unfold szLv
  split
  · omega
  · split <;> omega
theorem szLv_yes {n m : Nat} (h : n + m ≤ 1048576) : szLv 1048576 n m = 1048576 - n - m := by unfold szLv; rw [if_neg (by omega), if_neg (by omega)]
/-- levels of the call's own -/
def OLev (w : World) (B : Nat) (x : Value) (fs ds : List Int) : Prop := ∃ v u, x = .agg #[v, u] ∧ IRow w B v fs ∧ IRow w B u ds ∧ ∀ q, v.ownBlock = some q → u.ownBlock ≠ some q
theorem OLev.read {w : World} {B : Nat} {x : Value} {fs ds : List Int} (h : OLev w B x fs ds) : RLev w x fs ds := by
  obtain ⟨v, u, e, h1, h2, _⟩ := h
  exact ⟨v, u, e, RInts.of_row h1, RInts.of_row h2⟩
theorem OLev.below {w w' : World} {B : Nat} {x : Value} {fs ds : List Int} (h : OLev w B x fs ds) (hb : Below w.heap.size w w') : OLev w' B x fs ds := by
  obtain ⟨v, u, e, h1, h2, h3⟩ := h
  exact ⟨v, u, e, h1.below hb, h2.below hb, h3⟩
end Go.Proofs.Ytmfcknlpbliehab

/- The model's ncCell, ncCells; IsCell, IsWay, CellsOfWay, EndOfWay. -/
namespace Go.Proofs.Ytmfcknlpbliehab
open Go.RowKit
set_option linter.unusedVariables false
abbrev celV (x y : Int) : Value := .agg #[.int .i64 x, .int .i64 y]
abbrev wayV (x y : Int) (s : ByteArray) : Value := .agg #[.int .i64 x, .int .i64 y, .string s]
/-- a way in its box -/
structure WBox (w : World) (x y : Int) (s : ByteArray) (X : World) : Prop where
  c0 : X.cell? ⟨w.heap.size, 0, none⟩ = some (.int .i64 x)
  c1 : X.cell? ⟨w.heap.size, 1, none⟩ = some (.int .i64 y)
  c2 : X.cell? ⟨w.heap.size, 2, none⟩ = some (.string s)
  lt : w.heap.size < X.heap.size
  below : Below w.heap.size w X
theorem WBox.kept {w X X' : World} {x y : Int} {s : ByteArray} (h : WBox w x y s X) (hb : Below X.heap.size X X') : WBox w x y s X' :=
  ⟨(hb.cell (p := ⟨w.heap.size, 0, none⟩) h.lt).trans h.c0, (hb.cell (p := ⟨w.heap.size, 1, none⟩) h.lt).trans h.c1, (hb.cell (p := ⟨w.heap.size, 2, none⟩) h.lt).trans h.c2, Nat.lt_of_lt_of_le h.lt hb.size, h.below.trans (hb.mono h.below.size)⟩
/-- what is turned lies above the box -/
theorem WBox.above {w X X' : World} {x y : Int} {s : ByteArray} {B : Nat} (h : WBox w x y s X) (hB : w.heap.size < B) (hb : Below B X X') : WBox w x y s X' :=
  ⟨(hb.cell (p := ⟨w.heap.size, 0, none⟩) hB).trans h.c0, (hb.cell (p := ⟨w.heap.size, 1, none⟩) hB).trans h.c1, (hb.cell (p := ⟨w.heap.size, 2, none⟩) hB).trans h.c2, Nat.lt_of_lt_of_le h.lt hb.size, h.below.trans (hb.mono (Nat.le_of_lt hB))⟩
theorem CRow.kept_ne {w w' : World} {B n : Nat} {v : Value} {xs : List Int} {r : Nat} (h : CRow w B v n xs) (hg : w.grownBy w' (some r)) (hne : ∀ q, v.ownBlock = some q → q ≠ r) : CRow w' B v n xs :=
  ⟨World.ownsRow.kept h.1 hg (by
    cases e : v.ownBlock with
    | none => exact .inl rfl
    | some k =>
      right
      intro e2
      injection e2 with e2
      exact hne k e e2), h.2⟩
theorem one_cell (w : World) (x y : Int) : CRow (w.alloc (.cells #[.int .i64 x, .int .i64 y] 54)) w.heap.size (.slice (some ⟨w.heap.size, 0, none⟩) 1 1) 1 [x, y] :=
  ⟨World.ownsRow_lit w #[.int .i64 x, .int .i64 y] 1 (Nat.le_refl _) (by simp [maxLen]) rfl, rfl⟩
/-- the walk along a way: where it has come to, and the cells so far -/
structure NcAt (w wa : World) (x y : Int) (s : ByteArray) (b : Nat) (o : Value) (n : Nat) (xs : List Int) (px py : Int) (X : World) : Prop where
  box : WBox w x y s X
  row : CRow X wa.heap.size o n xs
  ne : ∀ q, o.ownBlock = some q → q ≠ b
  c0 : X.cell? ⟨b, 0, none⟩ = some (.int .i64 px)
  c1 : X.cell? ⟨b, 1, none⟩ = some (.int .i64 py)
  f0 : X.frozen? ⟨b, 0, none⟩ = false
  f1 : X.frozen? ⟨b, 1, none⟩ = false
  lt : b < X.heap.size
  lo : wa.heap.size ≤ b
  wlo : w.heap.size < wa.heap.size
namespace NcAt
variable {w wa X X' : World} {x y px py : Int} {s : ByteArray} {b n : Nat} {o : Value} {xs : List Int}
theorem kept0 (h : NcAt w wa x y s b o n xs px py X) (hb : Below X.heap.size X X') : NcAt w wa x y s b o n xs px py X' :=
  ⟨h.box.kept hb, h.row.below hb, h.ne, (hb.cell (p := ⟨b, 0, none⟩) h.lt).trans h.c0, (hb.cell (p := ⟨b, 1, none⟩) h.lt).trans h.c1, (hb.frozen (p := ⟨b, 0, none⟩) h.lt).trans h.f0, (hb.frozen (p := ⟨b, 1, none⟩) h.lt).trans h.f1, Nat.lt_of_lt_of_le h.lt hb.size, h.lo, h.wlo⟩
theorem put0 (h : NcAt w wa x y s b o n xs px py X) (u : Int) : NcAt w wa x y s b o n xs u py (X.setCell ⟨b, 0, none⟩ (.int .i64 u)) :=
  ⟨h.box.above (B := wa.heap.size) h.wlo ((Below.refl _ _).setCell (p := ⟨b, 0, none⟩) h.lo _), h.row.kept_ne (setCell_grown X ⟨b, 0, none⟩ _ rfl) h.ne, h.ne, World.cell?_setCell_same' _ _ _ (by rw [h.c0]; rfl), by rw [World.cell?_setCell_other _ _ _ _ (by simp)]; exact h.c1, by rw [World.frozen?_setCell]; exact h.f0, by rw [World.frozen?_setCell]; exact h.f1, by simpa [World.setCell] using h.lt, h.lo, h.wlo⟩
theorem put1 (h : NcAt w wa x y s b o n xs px py X) (u : Int) : NcAt w wa x y s b o n xs px u (X.setCell ⟨b, 1, none⟩ (.int .i64 u)) :=
  ⟨h.box.above (B := wa.heap.size) h.wlo ((Below.refl _ _).setCell (p := ⟨b, 1, none⟩) h.lo _), h.row.kept_ne (setCell_grown X ⟨b, 1, none⟩ _ rfl) h.ne, h.ne, by rw [World.cell?_setCell_other _ _ _ _ (by simp)]; exact h.c0, World.cell?_setCell_same' _ _ _ (by rw [h.c1]; rfl), by rw [World.frozen?_setCell]; exact h.f0, by rw [World.frozen?_setCell]; exact h.f1, by simpa [World.setCell] using h.lt, h.lo, h.wlo⟩
/-- an append -/
theorem push (h : NcAt w wa x y s b o n xs px py X) {v' : Value} {ys : List Int} (hr : CRow X' wa.heap.size v' (n + 1) ys) (hg : X.grownBy X' o.ownBlock) (hat : v'.ownBlock = o.ownBlock ∨ ∃ g, v'.ownBlock = some g ∧ X.heap.size ≤ g) : NcAt w wa x y s b v' (n + 1) ys px py X' := by
  have hblk : ∀ (q : Nat), q < X.heap.size → o.ownBlock ≠ some q → X'.heap[q]? = X.heap[q]? := fun q hq hn => hg.block q hq (fun e => hn e.symm)
  have hbn : o.ownBlock ≠ some b := fun e => h.ne b e rfl
  have hc : ∀ j, X'.cell? ⟨b, j, none⟩ = X.cell? ⟨b, j, none⟩ := fun j => by unfold World.cell?; rw [hblk b h.lt hbn]
  have hf : ∀ j, X'.frozen? ⟨b, j, none⟩ = X.frozen? ⟨b, j, none⟩ := fun j => by unfold World.frozen?; rw [hblk b h.lt hbn]
  have hbw : Below wa.heap.size X X' := (Below.refl _ _).grown hg (Nat.le_trans h.lo (Nat.le_of_lt h.lt)) (fun q hq => (h.row.blk q hq).1)
  exact ⟨h.box.above h.wlo hbw, hr, fun q hq => by
    rcases hat with e | ⟨g, e, hge⟩
    · rw [e] at hq; exact h.ne q hq
    · rw [e] at hq
      injection hq with hq
      have := h.lt
      omega, (hc 0).trans h.c0, (hc 1).trans h.c1, (hf 0).trans h.f0, (hf 1).trans h.f1, Nat.lt_of_lt_of_le h.lt hg.size, h.lo, h.wlo⟩
end NcAt
end Go.Proofs.Ytmfcknlpbliehab
