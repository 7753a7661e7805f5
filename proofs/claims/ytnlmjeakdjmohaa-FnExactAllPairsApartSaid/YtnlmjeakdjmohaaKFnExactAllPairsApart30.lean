/- Pack 30 of what FnExactAllPairsApart needs: RegG, RcG. -/
import Derived.Test.YtnlmjeakdjmohaaKFnExactAllPairsApart29
/- A region that draws its order over loads, calls, boxes and stores into these boxes: what its slots hold and its boxes, told by what has been done. -/
namespace Go.Proofs.Ytnlmjeakdjmohaa
open Go.RowKit
set_option linter.unusedVariables false
theorem ready_ofM {md : Region.Mode} {ops : Array Oper} {listed : Array Bool} {i : Nat} {o : Oper} (hi : ops[i]? = some o) (h1 : listed.getD i true = false) (h2 : ∀ e ∈ o.after, Region.binds md e = true → listed.getD e.on false = true) : i ∈ Region.ready md ops listed := by
  unfold Region.ready
  rw [List.mem_filter, Bool.and_eq_true]
  have hlt : i < ops.size := by
    rcases Nat.lt_or_ge i ops.size with h | h
    · exact h
    · rw [Array.getElem?_eq_none h] at hi; cases hi
  refine ⟨List.mem_range.2 hlt, by rw [h1]; rfl, ?_⟩
  rw [hi]
  simp only [Option.map_some, Option.getD_some]
  refine Array.all_eq_true_iff_forall_mem.2 fun e he => ?_
  cases hb : Region.binds md e with
  | false => rfl
  | true => rw [h2 e he hb]; rfl
/-- each operation waits for earlier ones alone -/
def waitsM (md : Region.Mode) (ops : Array Oper) : Bool := (List.range ops.size).all fun i => ((ops[i]?).map fun o => o.after.all fun e => !Region.binds md e || decide (e.on < i)).getD true
theorem waits_ofM {md : Region.Mode} {ops : Array Oper} (h : waitsM md ops = true) {i : Nat} {o : Oper} (hi : ops[i]? = some o) : ∀ e ∈ o.after, Region.binds md e = true → e.on < i := fun e he hb => by
  unfold waitsM at h
  have hlt : i < ops.size := by
    rcases Nat.lt_or_ge i ops.size with h | h
    · exact h
    · rw [Array.getElem?_eq_none h] at hi; cases hi
  have := List.all_eq_true.1 h i (List.mem_range.2 hlt)
  rw [hi] at this
  simp only [Option.map_some, Option.getD_some] at this
  have h3 := (Array.all_eq_true_iff_forall_mem.1 this) e he
  rw [hb] at h3
  simpa using h3
theorem all_listedM {md : Region.Mode} {ops : Array Oper} {listed : Array Bool} (hw : waitsM md ops = true) (hs : listed.size = ops.size) (hr : Region.ready md ops listed = []) : ∀ i, i < ops.size → listed.getD i false = true := by
  intro i
  induction i using Nat.strongRecOn with
  | _ i ih =>
    intro hi
    refine Classical.byContradiction fun hn => ?_
    have ho : ops[i]? = some ops[i] := Array.getElem?_eq_getElem hi
    have h1 : listed.getD i true = false := by
      rw [Array.getD_eq_getD_getElem?, Array.getElem?_eq_getElem (by omega)] at hn ⊢
      simpa using hn
    have := ready_ofM (md := md) ho h1 (fun e he hb => ih e.on (waits_ofM hw ho e he hb) (by have := waits_ofM hw ho e he hb; omega))
    rw [hr] at this
    cases this
theorem wpAny_invM {P : Program} {ops : Array Oper} {md : Region.Mode} {Q : Exit → Act → World → Prop} (Inv : (Nat → Bool) → Act → World → Prop) (hw : waitsM md ops = true)
    (hstep : ∀ i o, ops[i]? = some o → ∀ L a w, Inv L a w → L i = false → (∀ e ∈ o.after, Region.binds md e = true → L e.on = true) → wpOp P ops Q i (fun a' w' => Inv (upd L i) a' w') a w)
    (hdone : ∀ L a w, (∀ i, i < ops.size → L i = true) → Inv L a w → Q .normal a w) :
    ∀ (fuel : Nat) (listed : Array Bool) (L : Nat → Bool) (a : Act) (w : World), listed.size = ops.size → unlisted listed ≤ fuel → (∀ i, i < ops.size → L i = listed.getD i false) → Inv L a w → wpAny P md ops Q fuel listed a w := by
  have hfin : ∀ (listed : Array Bool) (L : Nat → Bool) (a : Act) (w : World), listed.size = ops.size → (∀ i, i < ops.size → L i = listed.getD i false) → Inv L a w → Region.ready md ops listed = [] → Q .normal a w := fun listed L a w hs hL hI hr =>
    hdone L a w (fun i hi => by rw [hL i hi]; exact all_listedM hw hs hr i hi) hI
  intro fuel
  induction fuel with
  | zero =>
    intro listed L a w hs hu hL hI
    have hr : Region.ready md ops listed = [] := by
      refine List.eq_nil_iff_forall_not_mem.2 fun i hi => ?_
      obtain ⟨o, _, h1, _⟩ := ready_mem hi
      have := unlisted_set h1
      omega
    exact ⟨hr, hfin listed L a w hs hL hI hr⟩
  | succ fuel ih =>
    intro listed L a w hs hu hL hI
    refine ⟨hfin listed L a w hs hL hI, fun i hi => ?_⟩
    obtain ⟨o, ho, h1, h2⟩ := ready_mem hi
    have hlt : i < ops.size := by
      rcases Nat.lt_or_ge i ops.size with h | h
      · exact h
      · rw [Array.getElem?_eq_none h] at ho; cases ho
    have h1' : listed.getD i false = false := by
      rw [Array.getD_eq_getD_getElem?, Array.getElem?_eq_getElem (by omega)] at h1 ⊢
      simpa using h1
    have hu2 := unlisted_set h1
    refine wpOp_mono (fun a' w' h => ih (listed.setIfInBounds i true) (upd L i) a' w' (by simpa using hs) (by omega) (fun j hj => ?_) h) (hstep i o ho L a w hI (by rw [hL i hlt]; exact h1') (fun e he hb => ?_))
    · by_cases e : j = i
      · subst e
        rw [upd_same, Array.getD_eq_getD_getElem?, Array.getElem?_setIfInBounds_self_of_lt (by omega)]
        rfl
      · rw [upd_other e, hL j hj, Array.getD_eq_getD_getElem?, Array.getD_eq_getD_getElem?, Array.getElem?_setIfInBounds_ne (fun x => e x.symm)]
    · have hl := h2 e he hb
      rcases Nat.lt_or_ge e.on ops.size with h | h
      · rw [hL _ h]; exact hl
      · rw [Array.getD_eq_getD_getElem?, Array.getElem?_eq_none (by omega)] at hl
        simp at hl
theorem wp_region_invM {P : Program} {ops : Array Oper} {id : Nat} {Q : Exit → Act → World → Prop} {a : Act} {w : World} (Inv : (Nat → Bool) → Act → World → Prop) (hm : P.follows .mixedOrders = true) (hw : waitsM .any ops = true)
    (h0 : Inv (fun _ => false) a w.drew)
    (hstep : ∀ i o, ops[i]? = some o → ∀ L a w, Inv L a w → L i = false → (∀ e ∈ o.after, Region.binds .any e = true → L e.on = true) → wpOp P ops Q i (fun a' w' => Inv (upd L i) a' w') a w)
    (hdone : ∀ L a w, (∀ i, i < ops.size → L i = true) → Inv L a w → Q .normal a w) : (Code.region id ops true).wp P Q a w :=
  wp_region_any hm (wpAny_invM Inv hw hstep hdone ops.size (Array.replicate ops.size false) (fun _ => false) a w.drew (by simp) (by
    unfold unlisted
    simp) (fun i hi => by rw [Array.getD_eq_getD_getElem?, Array.getElem?_replicate, if_pos hi]; rfl) h0)
/-- the same, with what the slots hold told from the frame at the region's start -/
theorem wp_region_inv3 {P : Program} {ops : Array Oper} {id : Nat} {Q : Exit → Act → World → Prop} {a : Act} {w : World} (Inv : Act → (Nat → Bool) → Act → World → Prop) (hm : P.follows .mixedOrders = true) (hw : waitsM .any ops = true)
    (h0 : Inv a (fun _ => false) a w.drew)
    (hstep : ∀ i o, ops[i]? = some o → ∀ L a' w, Inv a L a' w → L i = false → (∀ e ∈ o.after, Region.binds .any e = true → L e.on = true) → wpOp P ops Q i (fun a'' w' => Inv a (upd L i) a'' w') a' w)
    (hdone : ∀ L a' w, (∀ i, i < ops.size → L i = true) → Inv a L a' w → Q .normal a' w) : (Code.region id ops true).wp P Q a w :=
  wp_region_invM (Inv a) hm hw h0 hstep hdone
def upg (u : Nat → Value) (i : Nat) (v : Value) : Nat → Value := fun j => if j = i then v else u j
theorem upg_same (u : Nat → Value) (i : Nat) (v : Value) : upg u i v i = v := by simp [upg]
theorem upg_other {u : Nat → Value} {i j : Nat} {v : Value} (h : j ≠ i) : upg u i v j = u j := by simp [upg, h]
def upb (u : Nat → Nat) (i v : Nat) : Nat → Nat := fun j => if j = i then v else u j
theorem upb_same (u : Nat → Nat) (i v : Nat) : upb u i v i = v := by simp [upb]
theorem upb_other {u : Nat → Nat} {i j v : Nat} (h : j ≠ i) : upb u i v j = u j := by simp [upb, h]
/-- the cells of a block -/
def CellsAt (W : World) (b : Nat) (cs : List Value) : Prop := ∀ i v, cs[i]? = some v → W.cell? ⟨b, i, none⟩ = some v ∧ W.frozen? ⟨b, i, none⟩ = false
/-- a box, or a literal: the operation that makes it, the one that stores (none for a literal), its slot's value, what it holds before and behind -/
structure BoxG where
  bk : Nat
  st : Nat
  lit : Bool
  pt : Nat → Value
  ty : TypeId
  z : List Value
  cs : List Value
structure RG (w0 : World) (E : Nat → Value) (isV : Nat → Bool) (bx : List BoxG) (L : Nat → Bool) (W : World) (u : Nat → Value) (bb : Nat → Nat) : Prop where
  below : Below w0.heap.size w0 W
  val : ∀ j, isV j = true → L j = true → u j = E j
  box : ∀ t ∈ bx, L t.bk = true → u t.bk = t.pt (bb t.bk) ∧ w0.heap.size ≤ bb t.bk ∧ bb t.bk < W.heap.size ∧ CellsAt W (bb t.bk) (if t.lit = false ∧ L t.st = true then t.cs else t.z) ∧ ((t.lit = true ∨ L t.st = false) → W.heap[bb t.bk]? = some (.cells t.z.toArray t.ty (0, 0)))
  sep : ∀ t ∈ bx, ∀ t' ∈ bx, t.bk ≠ t'.bk → L t.bk = true → L t'.bk = true → bb t.bk ≠ bb t'.bk
  dep : ∀ t ∈ bx, t.lit = false → L t.st = true → L t.bk = true
/-- numbers of operations are no two things at once -/
structure OkG (isV : Nat → Bool) (bx : List BoxG) : Prop where
  vm : ∀ t ∈ bx, isV t.bk = false
  vs : ∀ t ∈ bx, isV t.st = false
  ms : ∀ t ∈ bx, ∀ t' ∈ bx, t.bk ≠ t'.st
  mm : ∀ t ∈ bx, ∀ t' ∈ bx, t.bk = t'.bk → t = t'
  ss : ∀ t ∈ bx, ∀ t' ∈ bx, t.st = t'.st → t = t'
  len : ∀ t ∈ bx, t.cs.length = t.z.length
namespace RG
variable {w0 W W' : World} {E : Nat → Value} {isV : Nat → Bool} {bx : List BoxG} {L : Nat → Bool} {u : Nat → Value} {bb : Nat → Nat}
theorem start (w : World) (u : Nat → Value) : RG w E isV bx (fun _ => false) w.drew u (fun _ => 0) :=
  ⟨(Below.refl _ _).drew, (fun j _ h => by cases h), (fun t _ h => by cases h), (fun t _ t' _ _ h => by cases h), (fun t _ _ h => by cases h)⟩
theorem CellsAt.kept {b : Nat} {cs : List Value} (h : CellsAt W b cs) (hb : b < W.heap.size) (hw : Below W.heap.size W W') : CellsAt W' b cs := fun i v hi =>
  ⟨(hw.cell (p := ⟨b, i, none⟩) hb).trans (h i v hi).1, (hw.frozen (p := ⟨b, i, none⟩) hb).trans (h i v hi).2⟩
theorem kept (h : RG w0 E isV bx L W u bb) (hw : Below W.heap.size W W') : RG w0 E isV bx L W' u bb where
  below := h.below.trans (hw.mono h.below.size)
  val := h.val
  box := fun t ht hL => by
    obtain ⟨h1, h2, h3, h4, h5⟩ := h.box t ht hL
    exact ⟨h1, h2, Nat.lt_of_lt_of_le h3 hw.size, CellsAt.kept h4 h3 hw, fun e => (hw.block _ h3).trans (h5 e)⟩
  sep := h.sep
  dep := h.dep
/-- a slot is set -/
theorem setv (ok : OkG isV bx) (h : RG w0 E isV bx L W u bb) (j : Nat) (hj : isV j = true) (v : Value) (hv : v = E j) : RG w0 E isV bx (upd L j) W (upg u j v) bb where
  below := h.below
  val := fun k hk e => by
    by_cases c : k = j
    · subst c; rw [upg_same]; exact hv
    · rw [upg_other c]; exact h.val k hk (by rwa [upd_other c] at e)
  box := fun t ht hL => by
    have n1 : t.bk ≠ j := fun e => by have := ok.vm t ht; rw [e, hj] at this; cases this
    have n2 : t.st ≠ j := fun e => by have := ok.vs t ht; rw [e, hj] at this; cases this
    rw [upd_other n1] at hL
    rw [upg_other n1, upd_other n2]
    exact h.box t ht hL
  sep := fun t ht t' ht' hne h1 h2 => by
    have n1 : t.bk ≠ j := fun e => by have := ok.vm t ht; rw [e, hj] at this; cases this
    have n2 : t'.bk ≠ j := fun e => by have := ok.vm t' ht'; rw [e, hj] at this; cases this
    rw [upd_other n1] at h1
    rw [upd_other n2] at h2
    exact h.sep t ht t' ht' hne h1 h2
  dep := fun t ht hl e => by
    have n1 : t.bk ≠ j := fun e => by have := ok.vm t ht; rw [e, hj] at this; cases this
    have n2 : t.st ≠ j := fun e => by have := ok.vs t ht; rw [e, hj] at this; cases this
    rw [upd_other n2] at e
    rw [upd_other n1]
    exact h.dep t ht hl e
/-- a box is made -/
theorem alloc (ok : OkG isV bx) (h : RG w0 E isV bx L W u bb) (t : BoxG) (ht : t ∈ bx) (hL : L t.bk = false) : RG w0 E isV bx (upd L t.bk) (W.alloc (.cells t.z.toArray t.ty)) (upg u t.bk (t.pt W.heap.size)) (upb bb t.bk W.heap.size) := by
  have hw : Below W.heap.size W (W.alloc (.cells t.z.toArray t.ty)) := (Below.refl _ _).alloc (Nat.le_refl _) _
  have hk := h.kept hw
  have nst : t.lit = false → L t.st = false := fun hl => by
    cases e : L t.st with
    | false => rfl
    | true => have := h.dep t ht hl e; rw [hL] at this; cases this
  exact {
    below := hk.below
    val := fun k hk2 e => by
      have n : k ≠ t.bk := fun c => by have := ok.vm t ht; rw [← c, hk2] at this; cases this
      rw [upg_other n]
      exact h.val k hk2 (by rwa [upd_other n] at e)
    box := fun t' ht' e => by
      by_cases c : t'.bk = t.bk
      · obtain rfl := ok.mm t' ht' t ht c
        rw [upg_same, upb_same]
        refine ⟨rfl, h.below.size, by simp, ?_, fun _ => by show (W.heap.push _)[W.heap.size]? = _; simp⟩
        rw [upd_other (fun c2 => ok.ms t' ht' t' ht' c2.symm)]
        intro i v hi
        rw [if_neg (by rintro ⟨e1, e2⟩; rw [nst e1] at e2; cases e2)] at hi
        have hlt : i < t'.z.length := by
          rcases Nat.lt_or_ge i t'.z.length with h1 | h1
          · exact h1
          · rw [List.getElem?_eq_none h1] at hi; cases hi
        constructor
        · simp [go_sem, hi]
        · simp [go_sem]
      · rw [upd_other c] at e
        rw [upg_other c, upb_other c, upd_other (fun c2 => ok.ms t ht t' ht' c2.symm)]
        exact hk.box t' ht' e
    sep := fun t1 h1 t2 h2 hne e1 e2 => by
      by_cases c1 : t1.bk = t.bk
      · have c2 : t2.bk ≠ t.bk := fun c => hne (c1.trans c.symm)
        rw [upd_other c2] at e2
        have := (h.box t2 h2 e2).2.2.1
        rw [c1, upb_same, upb_other c2]
        omega
      · rw [upd_other c1] at e1
        by_cases c2 : t2.bk = t.bk
        · have := (h.box t1 h1 e1).2.2.1
          rw [c2, upb_same, upb_other c1]
          omega
        · rw [upd_other c2] at e2
          rw [upb_other c1, upb_other c2]
          exact h.sep t1 h1 t2 h2 hne e1 e2
    dep := fun t' ht' hl e => by
      rw [upd_other (fun c2 => ok.ms t ht t' ht' c2.symm)] at e
      by_cases c : t'.bk = t.bk
      · rw [c]; exact upd_same _ _
      · rw [upd_other c]; exact h.dep t' ht' hl e }
/-- cells stored one behind the other -/
def setN (W : World) (b : Nat) : Nat → List Value → World
  | _, [] => W
  | i, v :: vs => setN (W.setCell ⟨b, i, none⟩ v) b (i + 1) vs
theorem setN_size (b : Nat) : ∀ (vs : List Value) (i : Nat) (W : World), (setN W b i vs).heap.size = W.heap.size
  | [], _, _ => rfl
  | v :: vs, i, W => by rw [setN, setN_size b vs]; simp [World.setCell]
theorem setN_frozen (b : Nat) : ∀ (vs : List Value) (i : Nat) (W : World) (p : Addr), (setN W b i vs).frozen? p = W.frozen? p
  | [], _, _, _ => rfl
  | v :: vs, i, W, p => by rw [setN, setN_frozen b vs, World.frozen?_setCell]
theorem setN_before (b : Nat) : ∀ (vs : List Value) (i : Nat) (W : World) (c j : Nat), (c ≠ b ∨ j < i) → (setN W b i vs).cell? ⟨c, j, none⟩ = W.cell? ⟨c, j, none⟩
  | [], _, _, _, _, _ => rfl
  | v :: vs, i, W, c, j, h => by
    rw [setN, setN_before b vs (i + 1) _ c j (by omega), World.cell?_setCell_other _ _ _ _ (by
      intro e
      injection e with e1 e2
      omega)]
theorem setN_at (b : Nat) : ∀ (vs : List Value) (i : Nat) (W : World) (j : Nat) (v : Value), vs[j]? = some v → (∃ z, W.cell? ⟨b, i + j, none⟩ = some z) → (setN W b i vs).cell? ⟨b, i + j, none⟩ = some v
  | [], _, _, _, _, h, _ => by simp at h
  | v :: vs, i, W, 0, v', h, hz => by
    rw [setN, setN_before b vs (i + 1) _ b (i + 0) (.inr (by omega))]
    simp at h
    subst h
    obtain ⟨z, hz⟩ := hz
    exact World.cell?_setCell_same' _ _ _ (by rw [Nat.add_zero] at hz; rw [hz]; rfl)
  | v :: vs, i, W, j + 1, v', h, hz => by
    rw [setN, show i + (j + 1) = (i + 1) + j by omega]
    refine setN_at b vs (i + 1) _ j v' (by simpa using h) ?_
    obtain ⟨z, hz⟩ := hz
    refine ⟨z, ?_⟩
    rw [World.cell?_setCell_other _ _ _ _ (by
      intro e
      injection e with e1 e2
      omega), show (i + 1) + j = i + (j + 1) by omega]
    exact hz
theorem setN_below {B b : Nat} (hB : B ≤ b) : ∀ (vs : List Value) (i : Nat) (W : World) (w0 : World), Below B w0 W → Below B w0 (setN W b i vs)
  | [], _, _, _, h => h
  | v :: vs, i, W, w0, h => setN_below hB vs (i + 1) _ w0 (h.setCell (p := ⟨b, i, none⟩) hB v)
theorem setN_block (b : Nat) : ∀ (vs : List Value) (i : Nat) (W : World) (c : Nat), c ≠ b → (setN W b i vs).heap[c]? = W.heap[c]?
  | [], _, _, _, _ => rfl
  | v :: vs, i, W, c, h => by
    rw [setN, setN_block b vs (i + 1) _ c h]
    exact Below.heap_setCell _ _ _ _ h
/-- what comes is stored -/
theorem store (ok : OkG isV bx) (h : RG w0 E isV bx L W u bb) (t : BoxG) (ht : t ∈ bx) (hl : t.lit = false) (hm : L t.bk = true) (hL : L t.st = false) : RG w0 E isV bx (upd L t.st) (setN W (bb t.bk) 0 t.cs) u bb := by
  obtain ⟨k1, k2, k3, k4, k5⟩ := h.box t ht hm
  rw [if_neg (by rintro ⟨_, e2⟩; rw [hL] at e2; cases e2)] at k4
  exact {
    below := setN_below k2 _ _ _ _ h.below
    val := fun k hk e => h.val k hk (by rwa [upd_other (fun c => by have := ok.vs t ht; rw [← c, hk] at this; cases this)] at e)
    box := fun t' ht' e => by
      rw [upd_other (fun c2 => ok.ms t' ht' t ht c2)] at e
      by_cases c : t'.bk = t.bk
      · obtain rfl := ok.mm t' ht' t ht c
        rw [upd_same, if_pos ⟨hl, rfl⟩]
        refine ⟨k1, k2, by rw [setN_size]; exact k3, ?_, fun e2 => by
          rcases e2 with e2 | e2
          · rw [hl] at e2; cases e2
          · cases e2⟩
        intro i v hi
        have hlt : i < t'.z.length := by
          rw [← ok.len t' ht']
          rcases Nat.lt_or_ge i t'.cs.length with h1 | h1
          · exact h1
          · rw [List.getElem?_eq_none h1] at hi; cases hi
        have hz := k4 i (t'.z[i]) (List.getElem?_eq_getElem hlt)
        constructor
        · have := setN_at (bb t'.bk) t'.cs 0 W i v hi ⟨_, by rw [Nat.zero_add]; exact hz.1⟩
          rwa [Nat.zero_add] at this
        · rw [setN_frozen]; exact hz.2
      · obtain ⟨m1, m2, m3, m4, m5⟩ := h.box t' ht' e
        have hne : bb t'.bk ≠ bb t.bk := h.sep t' ht' t ht c e hm
        have hst : t'.st ≠ t.st := fun c2 => c (by rw [ok.ss t' ht' t ht c2])
        rw [upd_other hst]
        refine ⟨m1, m2, by rw [setN_size]; exact m3, ?_, fun e2 => by rw [setN_block _ _ _ _ _ hne]; exact m5 e2⟩
        intro i v hi
        have := m4 i v hi
        exact ⟨by rw [setN_before _ _ _ _ _ _ (.inl hne)]; exact this.1, by rw [setN_frozen]; exact this.2⟩
    sep := fun t1 h1 t2 h2 hne e1 e2 => h.sep t1 h1 t2 h2 hne (by rwa [upd_other (ok.ms t1 h1 t ht)] at e1) (by rwa [upd_other (ok.ms t2 h2 t ht)] at e2)
    dep := fun t' ht' hl' e => by
      rw [upd_other (ok.ms t' ht' t ht)]
      by_cases c : t'.st = t.st
      · rw [ok.ss t' ht' t ht c]; exact hm
      · rw [upd_other c] at e; exact h.dep t' ht' hl' e }
end RG
/-- a literal is a row of its own -/
theorem lit_row {W : World} {b n size : Nat} {e : TypeId} {zs : List Value} (h : W.heap[b]? = some (.cells zs.toArray e (0, 0))) (hn : zs.length = n * size) (hm : n ≤ maxLen) : W.ownsRow b e size (.slice (some ⟨b, 0, none⟩) n n) n zs :=
  ⟨hn, .inr ⟨b, n, zs.toArray, rfl, Nat.le_refl _, h, Nat.le_refl _, hm, by simpa using hn, by rw [← hn]; simp⟩⟩
theorem put_same (a : Act) (s : Nat) : a.put (some s) (a.tmps.getD s undef) = a := by
  unfold Act.put
  have : a.tmps.setIfInBounds s (a.tmps.getD s undef) = a.tmps := by
    apply Array.ext_getElem?
    intro i
    rw [Array.getElem?_setIfInBounds]
    by_cases h : s = i
    · subst h
      rw [if_pos rfl]
      by_cases h2 : s < a.tmps.size
      · rw [if_pos h2, Array.getElem?_eq_getElem h2, Array.getD_eq_getD_getElem?, Array.getElem?_eq_getElem h2]
        rfl
      · rw [if_neg h2, Array.getElem?_eq_none (by omega)]
    · rw [if_neg h]
  simp only [this]
end Go.Proofs.Ytnlmjeakdjmohaa

/- A drawn region over reads and calls, one of which hands back a slice of its own: what its slots hold, told by what has been done. -/
namespace Go.Proofs.Ytnlmjeakdjmohaa
open Go.RowKit
set_option linter.unusedVariables false
structure RC (w0 : World) (E : Nat → Value) (isV : Nat → Bool) (rs : Nat → Bool) (f0 : Nat) (n : Nat) (Rw : World → Value → Prop) (L : Nat → Bool) (W : World) (u : Nat → Value) : Prop where
  below : Below w0.heap.size w0 W
  val : ∀ j, isV j = true → L j = true → u j = E j
  isF : rs f0 = true
  dep : ∀ r, rs r = true → L r = true → L f0 = true
  res : ∃ A c, (∀ r, rs r = true → L r = true → u r = .slice A n c) ∧ ((∃ r, rs r = true ∧ L r = true) → Rw W (.slice A n c))
namespace RC
variable {w0 W W' : World} {E : Nat → Value} {isV rs : Nat → Bool} {f0 n : Nat} {Rw : World → Value → Prop} {L : Nat → Bool} {u : Nat → Value}
theorem start (hf : rs f0 = true) (w : World) (u : Nat → Value) : RC w E isV rs f0 n Rw (fun _ => false) w.drew u :=
  ⟨(Below.refl _ _).drew, (fun j _ h => by cases h), hf, (fun r _ h => by cases h), none, 0, (fun r _ h => by cases h), (fun ⟨r, _, h⟩ => by cases h)⟩
theorem kept (hR : ∀ X X' v, Rw X v → Below X.heap.size X X' → Rw X' v) (h : RC w0 E isV rs f0 n Rw L W u) (hw : Below W.heap.size W W') : RC w0 E isV rs f0 n Rw L W' u := by
  obtain ⟨A, c, h1, h2⟩ := h.res
  exact ⟨h.below.trans (hw.mono h.below.size), h.val, h.isF, h.dep, A, c, h1, fun e => hR _ _ _ (h2 e) hw⟩
theorem setv (ok : ∀ j, isV j = true → rs j = false) (h : RC w0 E isV rs f0 n Rw L W u) (j : Nat) (hj : isV j = true) (v : Value) (hv : v = E j) : RC w0 E isV rs f0 n Rw (upd L j) W (upg u j v) := by
  obtain ⟨A, c, h1, h2⟩ := h.res
  have hne : ∀ r, rs r = true → r ≠ j := fun r hr e => by rw [e, ok j hj] at hr; cases hr
  refine ⟨h.below, fun k hk e => ?_, h.isF, fun r hr e => ?_, A, c, fun r hr e => ?_, fun ⟨r, hr, e⟩ => h2 ⟨r, hr, ?_⟩⟩
  · by_cases c : k = j
    · subst c; rw [upg_same]; exact hv
    · rw [upg_other c]; exact h.val k hk (by rwa [upd_other c] at e)
  · rw [upd_other (hne r hr)] at e
    rw [upd_other (hne f0 h.isF)]
    exact h.dep r hr e
  · rw [upd_other (hne r hr)] at e
    rw [upg_other (hne r hr)]
    exact h1 r hr e
  · rwa [upd_other (hne r hr)] at e
/-- the call -/
theorem setr (ok : ∀ j, isV j = true → rs j = false) (h : RC w0 E isV rs f0 n Rw L W u) (hL : L f0 = false) (A : Option Addr) (c : Nat) (hr : Rw W (.slice A n c)) : RC w0 E isV rs f0 n Rw (upd L f0) W (upg u f0 (.slice A n c)) := by
  obtain ⟨j, hjf⟩ : ∃ j, f0 = j := ⟨_, rfl⟩
  have hj : rs j = true := by rw [← hjf]; exact h.isF
  have hno : ∀ r, rs r = true → L r = false := fun r hr => by
    cases e : L r with
    | false => rfl
    | true => have := h.dep r hr e; rw [hL] at this; cases this
  subst hjf
  have hne : ∀ k, isV k = true → k ≠ f0 := fun k hk e => by have := ok k hk; rw [e, hj] at this; cases this
  refine ⟨h.below, fun k hk e => ?_, h.isF, fun r hr e => upd_same _ _, A, c, fun r hr e => ?_, fun _ => hr⟩
  · rw [upd_other (hne k hk)] at e
    rw [upg_other (hne k hk)]
    exact h.val k hk e
  · by_cases e2 : r = f0
    · subst e2; exact upg_same _ _ _
    · rw [upd_other e2, hno r hr] at e
      cases e
/-- a copy of what the call handed back -/
theorem setc (ok : ∀ j, isV j = true → rs j = false) (h : RC w0 E isV rs f0 n Rw L W u) (i j : Nat) (hi : rs i = true) (hL : L i = true) (hj : rs j = true) (v : Value) (hv : v = u i) : RC w0 E isV rs f0 n Rw (upd L j) W (upg u j v) := by
  obtain ⟨A, c, h1, h2⟩ := h.res
  have hne : ∀ k, isV k = true → k ≠ j := fun k hk e => by have := ok k hk; rw [e, hj] at this; cases this
  refine ⟨h.below, fun k hk e => ?_, h.isF, fun r hr e => ?_, A, c, fun r hr e => ?_, fun _ => h2 ⟨i, hi, hL⟩⟩
  · rw [upd_other (hne k hk)] at e
    rw [upg_other (hne k hk)]
    exact h.val k hk e
  · by_cases e3 : f0 = j
    · rw [e3]; exact upd_same _ _
    · rw [upd_other e3]; exact h.dep i hi hL
  · by_cases e2 : r = j
    · subst e2; rw [upg_same, hv]; exact h1 i hi hL
    · rw [upd_other e2] at e
      rw [upg_other e2]
      exact h1 r hr e
end RC
end Go.Proofs.Ytnlmjeakdjmohaa
