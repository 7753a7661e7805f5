/- Pack 24 of what FnExactAllPairsApart needs: PlMath, PcS. -/
import Derived.Test.YtnlmjeakdjmohaaKFnExactAllPairsApart23
/- The cells of a way as pairs, and what is on a list of cells. -/
namespace Go.Proofs.Ytnlmjeakdjmohaa
open Go.RowKit
set_option linter.unusedVariables false
theorem bt_txT0 (c : UInt8) (p : List UInt8) : bt (txT (c :: p)) 0 = (c.toNat : Int) := by
  rw [bt_at _ (by rw [txT_size]; simp)]
  rfl
theorem bt_txTs (c : UInt8) (p : List UInt8) (k : Nat) : bt (txT (c :: p)) (k + 1) = bt (txT p) k := by
  unfold bt
  by_cases h : k < (txT p).size
  · have h2 : k + 1 < (txT (c :: p)).size := by rw [txT_size] at h ⊢; simp; omega
    rw [dif_pos h, dif_pos h2]
    rfl
  · have h2 : ¬ k + 1 < (txT (c :: p)).size := by rw [txT_size] at h ⊢; simp; omega
    rw [dif_neg h, dif_neg h2]
theorem cX_txTs (c : UInt8) (p : List UInt8) (x : Int) : ∀ k, cX (txT (c :: p)) x (k + 1) = cX (txT p) (x + (if (c.toNat : Int) = 69 then 1 else 0)) k
  | 0 => by
    show cX _ x 0 + (if bt (txT (c :: p)) 0 = 69 then 1 else 0) = _
    rw [bt_txT0]
    rfl
  | k + 1 => by
    show cX _ x (k + 1) + (if bt (txT (c :: p)) (k + 1) = 69 then 1 else 0) = _
    rw [bt_txTs, cX_txTs c p x k]
    rfl
theorem cY_txTs (c : UInt8) (p : List UInt8) (y : Int) : ∀ k, cY (txT (c :: p)) y (k + 1) = cY (txT p) (y + (if (c.toNat : Int) = 78 then 1 else 0)) k
  | 0 => by
    show cY _ y 0 + (if bt (txT (c :: p)) 0 = 78 then 1 else 0) = _
    rw [bt_txT0]
    rfl
  | k + 1 => by
    show cY _ y (k + 1) + (if bt (txT (c :: p)) (k + 1) = 78 then 1 else 0) = _
    rw [bt_txTs, cY_txTs c p y k]
    rfl
def enB (p : List UInt8) : Prop := ∀ c ∈ p, c = 69 ∨ c = 78
theorem pcs_range : ∀ (p : List UInt8) (x y : Int), enB p → pcs x y p = (List.range (p.length + 1)).map fun k => (cX (txT p) x k, cY (txT p) y k)
  | [], x, y, _ => by simp [pcs, List.range_succ, cX, cY]
  | c :: p, x, y, h => by
    rw [pcs, List.length_cons, List.range_succ_eq_map, List.map_cons, List.map_map]
    congr 1
    have hc := h c List.mem_cons_self
    have hp : enB p := fun d hd => h d (List.mem_cons_of_mem _ hd)
    have e : (List.range (p.length + 1)).map ((fun k => (cX (txT (c :: p)) x k, cY (txT (c :: p)) y k)) ∘ Nat.succ) = (List.range (p.length + 1)).map fun k => (cX (txT p) (x + (if (c.toNat : Int) = 69 then 1 else 0)) k, cY (txT p) (y + (if (c.toNat : Int) = 78 then 1 else 0)) k) := by
      refine List.map_congr_left fun k _ => ?_
      simp only [Function.comp_def]
      rw [show k.succ = k + 1 from rfl, cX_txTs, cY_txTs]
    rw [e]
    rcases hc with rfl | rfl
    · rw [if_pos rfl, pcs_range p _ _ hp, if_pos (by decide), if_neg (by decide), Int.add_zero]
    · rw [if_neg (by decide), pcs_range p _ _ hp, if_neg (by decide), if_pos (by decide), Int.add_zero]
/-- a cell that is on a list of cells -/
def hasF (n : Nat) (xs : List Int) (a b : Int) : Bool := (List.range n).any fun j => xs.getD (j * 2) 0 == a && xs.getD (j * 2 + 1) 0 == b
theorem hasF_zero (xs : List Int) (a b : Int) : hasF 0 xs a b = false := rfl
theorem hasF_congr {n : Nat} {xs ys : List Int} (h : ∀ j, j < n * 2 → xs.getD j 0 = ys.getD j 0) (a b : Int) : hasF n xs a b = hasF n ys a b := by
  unfold hasF
  rw [Bool.eq_iff_iff, List.any_eq_true, List.any_eq_true]
  constructor
  · rintro ⟨j, hj, h2⟩
    have := List.mem_range.1 hj
    exact ⟨j, hj, by rw [← h (j * 2) (by omega), ← h (j * 2 + 1) (by omega)]; exact h2⟩
  · rintro ⟨j, hj, h2⟩
    have := List.mem_range.1 hj
    exact ⟨j, hj, by rw [h (j * 2) (by omega), h (j * 2 + 1) (by omega)]; exact h2⟩
theorem hasF_iff {n : Nat} {xs : List Int} {a b : Int} : hasF n xs a b = true ↔ ∃ j, j < n ∧ xs.getD (j * 2) 0 = a ∧ xs.getD (j * 2 + 1) 0 = b := by
  unfold hasF
  rw [List.any_eq_true]
  constructor
  · rintro ⟨j, hj, h⟩
    rw [Bool.and_eq_true, beq_iff_eq, beq_iff_eq] at h
    exact ⟨j, List.mem_range.1 hj, h.1, h.2⟩
  · rintro ⟨j, hj, h1, h2⟩
    exact ⟨j, List.mem_range.2 hj, by rw [h1, h2]; simp⟩
theorem hasF_app {n m : Nat} {xs ys : List Int} (hx : xs.length = n * 2) (a b : Int) : hasF (n + m) (xs ++ ys) a b = (hasF n xs a b || hasF m ys a b) := by
  have g1 : ∀ k, k < n * 2 → (xs ++ ys).getD k 0 = xs.getD k 0 := fun k hk => by
    rw [List.getD_eq_getElem?_getD, List.getD_eq_getElem?_getD, List.getElem?_append_left (by omega)]
  have g2 : ∀ k, (xs ++ ys).getD (n * 2 + k) 0 = ys.getD k 0 := fun k => by
    rw [List.getD_eq_getElem?_getD, List.getD_eq_getElem?_getD, List.getElem?_append_right (by omega), hx, show n * 2 + k - n * 2 = k by omega]
  rw [Bool.eq_iff_iff, Bool.or_eq_true, hasF_iff, hasF_iff, hasF_iff]
  constructor
  · rintro ⟨j, hj, h1, h2⟩
    by_cases h : j < n
    · rw [g1 _ (by omega)] at h1
      rw [g1 _ (by omega)] at h2
      exact .inl ⟨j, h, h1, h2⟩
    · rw [show j * 2 = n * 2 + (j - n) * 2 by omega, g2] at h1
      rw [show j * 2 + 1 = n * 2 + ((j - n) * 2 + 1) by omega, g2] at h2
      exact .inr ⟨j - n, by omega, h1, h2⟩
  · rintro (⟨j, hj, h1, h2⟩ | ⟨j, hj, h1, h2⟩)
    · exact ⟨j, by omega, by rw [g1 _ (by omega)]; exact h1, by rw [g1 _ (by omega)]; exact h2⟩
    · exact ⟨n + j, by omega, by rw [show (n + j) * 2 = n * 2 + j * 2 by omega, g2]; exact h1, by rw [show (n + j) * 2 + 1 = n * 2 + (j * 2 + 1) by omega, g2]; exact h2⟩
theorem hasF_pcs {p : List UInt8} {x y : Int} (h : enB p) (a b : Int) : hasF (p.length + 1) (clF (txT p) x y p.length) a b = (pcs x y p).contains (a, b) := by
  rw [Bool.eq_iff_iff, hasF_iff, List.contains_iff_mem, pcs_range p x y h, List.mem_map]
  constructor
  · rintro ⟨j, hj, h1, h2⟩
    rw [clF_x _ _ _ (by omega)] at h1
    rw [clF_y _ _ _ (by omega)] at h2
    exact ⟨j, List.mem_range.2 hj, by rw [h1, h2]⟩
  · rintro ⟨j, hj, h1⟩
    have := List.mem_range.1 hj
    injection h1 with h1 h2
    exact ⟨j, this, by rw [clF_x _ _ _ (by omega)]; exact h1, by rw [clF_y _ _ _ (by omega)]; exact h2⟩
/-- the cells of a way of the list lie between its ends, and are not taken -/
theorem spF_cells {tk : Int → Int → Bool} {u v : Int} : ∀ (f : Nat) (x y : Int) (p : List UInt8), p ∈ spF tk u v f x y → ∀ c ∈ pcs x y p, c.1 ≤ u ∧ c.2 ≤ v ∧ tk c.1 c.2 = false
  | 0, x, y, p, h => by cases h
  | f + 1, x, y, p, h => by
    rw [spF] at h
    split at h
    · cases h
    · next h0 =>
      have h00 : x ≤ u ∧ y ≤ v ∧ tk x y = false := by
        refine ⟨by omega, by omega, ?_⟩
        rcases hh : tk x y with _ | _
        · rfl
        · exact absurd (.inr (.inr hh)) h0
      split at h
      · rw [List.mem_singleton] at h
        subst h
        intro c hc
        rw [pcs, List.mem_singleton] at hc
        subst hc
        exact h00
      · rw [List.mem_append] at h
        rcases h with h | h
        · rw [List.mem_map] at h
          obtain ⟨q, hq, rfl⟩ := h
          intro c hc
          rw [pcs, if_pos rfl] at hc
          rcases List.mem_cons.1 hc with rfl | hc
          · exact h00
          · exact spF_cells f _ _ q hq c hc
        · rw [List.mem_map] at h
          obtain ⟨q, hq, rfl⟩ := h
          intro c hc
          rw [pcs, if_neg (by decide)] at hc
          rcases List.mem_cons.1 hc with rfl | hc
          · exact h00
          · exact spF_cells f _ _ q hq c hc
theorem enB_bt {p : List UInt8} (h : enB p) {k : Nat} (hk : k < p.length) : bt (txT p) k = 69 ∨ bt (txT p) k = 78 := by
  rw [bt_at _ (by rw [txT_size]; exact hk)]
  rcases h (p[k]) (List.getElem_mem hk) with e | e
  · left
    have : (txT p)[k]'(by rw [txT_size]; exact hk) = p[k] := rfl
    rw [this, e]
    rfl
  · right
    have : (txT p)[k]'(by rw [txT_size]; exact hk) = p[k] := rfl
    rw [this, e]
    rfl
theorem okW_of {p : List UInt8} {x y : Int} (h : enB p) (hc : ∀ c ∈ pcs x y p, cellB c.1 c.2 = true) : ∀ k, k ≤ p.length → okW (txT p) x y k = true
  | 0, _ => rfl
  | k + 1, hk => by
    have h1 := okW_of h hc k (by omega)
    have h2 := hc (cX (txT p) x (k + 1), cY (txT p) y (k + 1)) (by
      rw [pcs_range p x y h]
      exact List.mem_map.2 ⟨k + 1, List.mem_range.2 (by omega), rfl⟩)
    have h3 := enB_bt h (k := k) (by omega)
    show (okW (txT p) x y k && ((bt (txT p) k == 69 || bt (txT p) k == 78) && cellB (cX (txT p) x (k + 1)) (cY (txT p) y (k + 1)))) = true
    rw [h1, h2]
    rcases h3 with e | e <;> rw [e] <;> rfl
/-- the ways of the list are ways -/
theorem spF_way {tk : Int → Int → Bool} {u v x y : Int} {f : Nat} {p : List UInt8} (h : p ∈ spF tk u v f x y) (h1 : cellB x y = true) (h2 : cellB u v = true) : wayB x y (txT p) = true := by
  obtain ⟨m1, m2, m3, m4⟩ := spF_mem f x y p h
  have a1 := (cellB_iff _ _).1 h1
  have a2 := (cellB_iff _ _).1 h2
  unfold wayB
  rw [txT_size, h1, okW_of m4 (fun c hc => by
    have := spF_cells f x y p h c hc
    have := pcs_ge p x y (show (c.1, c.2) ∈ _ from hc)
    exact (cellB_iff _ _).2 (by omega)) _ (Nat.le_refl _), decide_eq_true (by omega)]
  rfl
theorem txT_list (s : ByteArray) : txT s.data.toList = s := by
  apply ByteArray.ext
  apply Array.toList_inj.1
  simp [txT]
theorem ok_sum {s : ByteArray} {x y : Int} : ∀ {k : Nat}, okW s x y k = true → cX s x k + cY s y k = x + y + k
  | 0, _ => by simp [cX, cY]
  | k + 1, h => by
    have h1 := okW_le h (Nat.le_succ k)
    have ih := ok_sum h1
    unfold okW at h
    rw [Bool.and_eq_true, Bool.and_eq_true, Bool.or_eq_true, beq_iff_eq, beq_iff_eq] at h
    have hb := h.2.1
    show (cX s x k + if bt s k = 69 then 1 else 0) + (cY s y k + if bt s k = 78 then 1 else 0) = _
    rcases hb with e | e
    · rw [if_pos e, if_neg (by omega)]
      omega
    · rw [if_neg (by omega), if_pos e]
      omega
theorem ok_24 {s : ByteArray} {x y : Int} {k : Nat} (h0 : cellB x y = true) (h : okW s x y k = true) : k ≤ 24 := by
  have h1 := (cellB_iff _ _).1 (okW_cell h0 h)
  have h2 := ok_sum h
  have h3 := (cellB_iff _ _).1 h0
  omega
theorem wayB_alt (x y : Int) (s : ByteArray) : (cellB x y && okW s x y s.size) = wayB x y s := by
  unfold wayB
  cases h0 : cellB x y with
  | false => rfl
  | true =>
    cases h : okW s x y s.size with
    | false => simp
    | true =>
      rw [decide_eq_true (ok_24 h0 h)]
      rfl
theorem way_en {x y : Int} {s : ByteArray} (h : wayB x y s = true) : enB s.data.toList := by
  intro c hc
  obtain ⟨h1, h2, h3⟩ := wayB_of h
  obtain ⟨k, hk, rfl⟩ := List.getElem_of_mem hc
  have hk2 : k < s.size := by simpa using hk
  have h4 := okW_le h3 (show k + 1 ≤ s.size by omega)
  unfold okW at h4
  rw [Bool.and_eq_true, Bool.and_eq_true, Bool.or_eq_true, beq_iff_eq, beq_iff_eq, bt_at _ hk2] at h4
  have e : s.data.toList[k] = s[k] := rfl
  rw [e]
  have hb := h4.2.1
  rcases hb with hb | hb
  · left
    apply UInt8.toNat_inj.1
    show (s[k]).toNat = 69
    omega
  · right
    apply UInt8.toNat_inj.1
    show (s[k]).toNat = 78
    omega
/-- the cells of a way, as pairs -/
theorem way_has {x y : Int} {s : ByteArray} (h : wayB x y s = true) (a b : Int) : hasF (s.size + 1) (clF s x y s.size) a b = (pcs x y s.data.toList).contains (a, b) := by
  have := hasF_pcs (x := x) (y := y) (way_en h) a b
  rw [txT_list, show s.data.toList.length = s.size by simp] at this
  exact this
end Go.Proofs.Ytnlmjeakdjmohaa

/- The walk of placesOf: words. -/
namespace Go.Proofs.Ytnlmjeakdjmohaa
open Go.RowKit
set_option linter.unusedVariables false
theorem PRow.kept_ne {w w' : World} {B n : Nat} {v : Value} {xs : List Int} {r : Nat} (h : PRow w B v n xs) (hg : w.grownBy w' (some r)) (hne : ∀ q, v.ownBlock = some q → q ≠ r) : PRow w' B v n xs :=
  ⟨World.ownsRow.kept h.1 hg (by
    cases e : v.ownBlock with
    | none => exact .inl rfl
    | some k =>
      right
      intro e2
      injection e2 with e2
      exact hne k e e2), h.2⟩
theorem one_place (w : World) (x y : Int) : PRow (w.alloc (.cells #[.int .i64 x, .int .i64 y] 103)) w.heap.size (.slice (some ⟨w.heap.size, 0, none⟩) 1 1) 1 [x, y] :=
  ⟨World.ownsRow_lit w #[.int .i64 x, .int .i64 y] 1 (Nat.le_refl _) (by simp [maxLen]) rfl, rfl⟩
/-- the walk along a way: where it has come to, and the cells so far -/
structure PcAt (w wa : World) (x y : Int) (s : ByteArray) (b : Nat) (o : Value) (n : Nat) (xs : List Int) (px py : Int) (X : World) : Prop where
  box : WBox w x y s X
  row : PRow X wa.heap.size o n xs
  ne : ∀ q, o.ownBlock = some q → q ≠ b
  c0 : X.cell? ⟨b, 0, none⟩ = some (.int .i64 px)
  c1 : X.cell? ⟨b, 1, none⟩ = some (.int .i64 py)
  f0 : X.frozen? ⟨b, 0, none⟩ = false
  f1 : X.frozen? ⟨b, 1, none⟩ = false
  lt : b < X.heap.size
  lo : wa.heap.size ≤ b
  wlo : w.heap.size < wa.heap.size
namespace PcAt
variable {w wa X X' : World} {x y px py : Int} {s : ByteArray} {b n : Nat} {o : Value} {xs : List Int}
theorem kept0 (h : PcAt w wa x y s b o n xs px py X) (hb : Below X.heap.size X X') : PcAt w wa x y s b o n xs px py X' :=
  ⟨h.box.kept hb, h.row.below hb, h.ne, (hb.cell (p := ⟨b, 0, none⟩) h.lt).trans h.c0, (hb.cell (p := ⟨b, 1, none⟩) h.lt).trans h.c1, (hb.frozen (p := ⟨b, 0, none⟩) h.lt).trans h.f0, (hb.frozen (p := ⟨b, 1, none⟩) h.lt).trans h.f1, Nat.lt_of_lt_of_le h.lt hb.size, h.lo, h.wlo⟩
theorem put0 (h : PcAt w wa x y s b o n xs px py X) (u : Int) : PcAt w wa x y s b o n xs u py (X.setCell ⟨b, 0, none⟩ (.int .i64 u)) :=
  ⟨h.box.above (B := wa.heap.size) h.wlo ((Below.refl _ _).setCell (p := ⟨b, 0, none⟩) h.lo _), h.row.kept_ne (setCell_grown X ⟨b, 0, none⟩ _ rfl) h.ne, h.ne, World.cell?_setCell_same' _ _ _ (by rw [h.c0]; rfl), by rw [World.cell?_setCell_other _ _ _ _ (by simp)]; exact h.c1, by rw [World.frozen?_setCell]; exact h.f0, by rw [World.frozen?_setCell]; exact h.f1, by simpa [World.setCell] using h.lt, h.lo, h.wlo⟩
theorem put1 (h : PcAt w wa x y s b o n xs px py X) (u : Int) : PcAt w wa x y s b o n xs px u (X.setCell ⟨b, 1, none⟩ (.int .i64 u)) :=
  ⟨h.box.above (B := wa.heap.size) h.wlo ((Below.refl _ _).setCell (p := ⟨b, 1, none⟩) h.lo _), h.row.kept_ne (setCell_grown X ⟨b, 1, none⟩ _ rfl) h.ne, h.ne, by rw [World.cell?_setCell_other _ _ _ _ (by simp)]; exact h.c0, World.cell?_setCell_same' _ _ _ (by rw [h.c1]; rfl), by rw [World.frozen?_setCell]; exact h.f0, by rw [World.frozen?_setCell]; exact h.f1, by simpa [World.setCell] using h.lt, h.lo, h.wlo⟩
/-- an append -/
theorem push (h : PcAt w wa x y s b o n xs px py X) {v' : Value} {ys : List Int} (hr : PRow X' wa.heap.size v' (n + 1) ys) (hg : X.grownBy X' o.ownBlock) (hat : v'.ownBlock = o.ownBlock ∨ ∃ g, v'.ownBlock = some g ∧ X.heap.size ≤ g) : PcAt w wa x y s b v' (n + 1) ys px py X' := by
  have hblk : ∀ (q : Nat), q < X.heap.size → o.ownBlock ≠ some q → X'.heap[q]? = X.heap[q]? := fun q hq hn => hg.block q hq (fun e => hn e.symm)
  have hbn : o.ownBlock ≠ some b := fun e => h.ne b e rfl
  have hc : ∀ j, X'.cell? ⟨b, j, none⟩ = X.cell? ⟨b, j, none⟩ := fun j => by unfold World.cell?; rw [hblk b h.lt hbn]
  have hf : ∀ j, X'.frozen? ⟨b, j, none⟩ = X.frozen? ⟨b, j, none⟩ := fun j => by unfold World.frozen?; rw [hblk b h.lt hbn]
  have hbw : Below wa.heap.size X X' := (Below.refl _ _).grown hg (Nat.le_trans h.lo (Nat.le_of_lt h.lt)) (fun q hq => (h.row.blk q hq).1)
  exact ⟨h.box.above h.wlo hbw, hr, fun q hq => by
    rcases hat with e | ⟨g, e, hge⟩
    · rw [e] at hq; exact h.ne q hq
    · rw [e] at hq
      injection hq with hq
      have := h.lt
      omega, (hc 0).trans h.c0, (hc 1).trans h.c1, (hf 0).trans h.f0, (hf 1).trans h.f1, Nat.lt_of_lt_of_le h.lt hg.size, h.lo, h.wlo⟩
end PcAt
/-- a call that hands back a slice of places of its own and a bool -/
def PsRet (w : World) (ok : Bool) (n : Nat) (xs : List Int) (e : Ending) (w' : World) : Prop :=
  ∃ v, e = .returned (.tuple #[v, .bool ok]) ∧ PRow w' w.heap.size v n xs ∧ Below w.heap.size w w'
end Go.Proofs.Ytnlmjeakdjmohaa
