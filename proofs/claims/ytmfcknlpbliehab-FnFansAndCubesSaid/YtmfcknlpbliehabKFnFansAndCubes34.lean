/- Pack 34 of what FnFansAndCubes needs: AnyInv, RegG, LdI. -/
import Derived.Test.YtmfcknlpbliehabKFnFansAndCubes33
import Derived.Orders
/- A region that draws its order, told by what has been done: one case for each operation in the place of one walk for each order. -/
namespace Go.Proofs.Ytmfcknlpbliehab
open Go.RowKit
set_option linter.unusedVariables false
/-- one operation more has been done -/
def upd (L : Nat → Bool) (i : Nat) : Nat → Bool := fun j => if j = i then true else L j
theorem upd_same (L : Nat → Bool) (i : Nat) : upd L i i = true := by simp [upd]
theorem upd_other {L : Nat → Bool} {i j : Nat} (h : j ≠ i) : upd L i j = L j := by simp [upd, h]
theorem ready_mem {md : Region.Mode} {ops : Array Oper} {listed : Array Bool} {i : Nat} (h : i ∈ Region.ready md ops listed) :
    ∃ o, ops[i]? = some o ∧ listed.getD i true = false ∧ ∀ e ∈ o.after, Region.binds md e = true → listed.getD e.on false = true := by
  unfold Region.ready at h
  rw [List.mem_filter, Bool.and_eq_true] at h
  obtain ⟨h0, h1, h2⟩ := h
  cases ho : ops[i]? with
  | none => rw [ho] at h2; simp at h2
  | some o =>
    rw [ho] at h2
    simp only [Option.map_some, Option.getD_some] at h2
    refine ⟨o, rfl, by simpa using h1, fun e he hb => ?_⟩
    have := (Array.all_eq_true_iff_forall_mem.1 h2) e he
    rw [hb] at this
    simpa using this
theorem ready_of {md : Region.Mode} {ops : Array Oper} {listed : Array Bool} {i : Nat} {o : Oper} (hi : ops[i]? = some o) (h1 : listed.getD i true = false) (h2 : ∀ e ∈ o.after, listed.getD e.on false = true) : i ∈ Region.ready md ops listed := by
  unfold Region.ready
  rw [List.mem_filter, Bool.and_eq_true]
  have hlt : i < ops.size := by
    rcases Nat.lt_or_ge i ops.size with h | h
    · exact h
    · rw [Array.getElem?_eq_none h] at hi; cases hi
  refine ⟨List.mem_range.2 hlt, by rw [h1]; rfl, ?_⟩
  rw [hi]
  simp only [Option.map_some, Option.getD_some]
  refine Array.all_eq_true_iff_forall_mem.2 fun e he => ?_
  rw [h2 e he, Bool.or_true]
/-- each operation waits for earlier ones alone -/
def waitsB (ops : Array Oper) : Bool := (List.range ops.size).all fun i => ((ops[i]?).map fun o => o.after.all fun e => decide (e.on < i)).getD true
theorem waits_of {ops : Array Oper} (h : waitsB ops = true) {i : Nat} {o : Oper} (hi : ops[i]? = some o) : ∀ e ∈ o.after, e.on < i := fun e he => by
  unfold waitsB at h
  have hlt : i < ops.size := by
    rcases Nat.lt_or_ge i ops.size with h | h
    · exact h
    · rw [Array.getElem?_eq_none h] at hi; cases hi
  have := List.all_eq_true.1 h i (List.mem_range.2 hlt)
  rw [hi] at this
  simp only [Option.map_some, Option.getD_some] at this
  simpa using (Array.all_eq_true_iff_forall_mem.1 this) e he
theorem all_listed {md : Region.Mode} {ops : Array Oper} {listed : Array Bool} (hw : waitsB ops = true) (hs : listed.size = ops.size) (hr : Region.ready md ops listed = []) : ∀ i, i < ops.size → listed.getD i false = true := by
  intro i
  induction i using Nat.strongRecOn with
  | _ i ih =>
    intro hi
    refine Classical.byContradiction fun hn => ?_
    have ho : ops[i]? = some ops[i] := Array.getElem?_eq_getElem hi
    have h1 : listed.getD i true = false := by
      rw [Array.getD_eq_getD_getElem?, Array.getElem?_eq_getElem (by omega)] at hn ⊢
      simpa using hn
    have := ready_of (md := md) ho h1 (fun e he => ih e.on (waits_of hw ho e he) (by have := waits_of hw ho e he; omega))
    rw [hr] at this
    cases this
def unlisted (listed : Array Bool) : Nat := (listed.toList.filter (!·)).length
theorem unlisted_set {listed : Array Bool} {i : Nat} (h : listed.getD i true = false) : unlisted (listed.setIfInBounds i true) + 1 = unlisted listed := by
  have hi : i < listed.size := by
    rcases Nat.lt_or_ge i listed.size with h1 | h1
    · exact h1
    · rw [Array.getD_eq_getD_getElem?, Array.getElem?_eq_none h1] at h; simp at h
  have hv : listed[i] = false := by
    rw [Array.getD_eq_getD_getElem?, Array.getElem?_eq_getElem hi] at h
    simpa using h
  unfold unlisted
  rw [Array.toList_setIfInBounds]
  obtain ⟨l⟩ := listed
  simp only [List.size_toArray, List.getElem_toArray] at hi hv ⊢
  induction l generalizing i with
  | nil => simp at hi
  | cons x l ih =>
    cases i with
    | zero =>
      simp at hv
      subst hv
      simp
    | succ i =>
      simp at hi hv
      have := ih (i := i) (by simp [hi, hv]) hi hv
      cases x <;> simp at this ⊢ <;> omega
theorem wpAny_inv {P : Program} {ops : Array Oper} {md : Region.Mode} {Q : Exit → Act → World → Prop} (Inv : (Nat → Bool) → Act → World → Prop) (hw : waitsB ops = true)
    (hstep : ∀ i o, ops[i]? = some o → ∀ L a w, Inv L a w → L i = false → (∀ e ∈ o.after, Region.binds md e = true → L e.on = true) → wpOp P ops Q i (fun a' w' => Inv (upd L i) a' w') a w)
    (hdone : ∀ L a w, (∀ i, i < ops.size → L i = true) → Inv L a w → Q .normal a w) :
    ∀ (fuel : Nat) (listed : Array Bool) (L : Nat → Bool) (a : Act) (w : World), listed.size = ops.size → unlisted listed ≤ fuel → (∀ i, i < ops.size → L i = listed.getD i false) → Inv L a w → wpAny P md ops Q fuel listed a w := by
  have hfin : ∀ (listed : Array Bool) (L : Nat → Bool) (a : Act) (w : World), listed.size = ops.size → (∀ i, i < ops.size → L i = listed.getD i false) → Inv L a w → Region.ready md ops listed = [] → Q .normal a w := fun listed L a w hs hL hI hr =>
    hdone L a w (fun i hi => by rw [hL i hi]; exact all_listed hw hs hr i hi) hI
  intro fuel
  induction fuel with
  | zero =>
    intro listed L a w hs hu hL hI
    have hr : Region.ready md ops listed = [] := by
      refine List.eq_nil_iff_forall_not_mem.2 fun i hi => ?_
      obtain ⟨o, _, h1, _⟩ := ready_mem hi
      have := unlisted_set h1
      omega
    exact ⟨hr, hfin listed L a w hs hL hI hr⟩
  | succ fuel ih =>
    intro listed L a w hs hu hL hI
    refine ⟨hfin listed L a w hs hL hI, fun i hi => ?_⟩
    obtain ⟨o, ho, h1, h2⟩ := ready_mem hi
    have hlt : i < ops.size := by
      rcases Nat.lt_or_ge i ops.size with h | h
      · exact h
      · rw [Array.getElem?_eq_none h] at ho; cases ho
    have h1' : listed.getD i false = false := by
      rw [Array.getD_eq_getD_getElem?, Array.getElem?_eq_getElem (by omega)] at h1 ⊢
      simpa using h1
    have hu2 := unlisted_set h1
    refine wpOp_mono (fun a' w' h => ih (listed.setIfInBounds i true) (upd L i) a' w' (by simpa using hs) (by omega) (fun j hj => ?_) h) (hstep i o ho L a w hI (by rw [hL i hlt]; exact h1') (fun e he hb => ?_))
    · by_cases e : j = i
      · subst e
        rw [upd_same, Array.getD_eq_getD_getElem?, Array.getElem?_setIfInBounds_self_of_lt (by omega)]
        rfl
      · rw [upd_other e, hL j hj, Array.getD_eq_getD_getElem?, Array.getD_eq_getD_getElem?, Array.getElem?_setIfInBounds_ne (fun x => e x.symm)]
    · have hl := h2 e he hb
      rcases Nat.lt_or_ge e.on ops.size with h | h
      · rw [hL _ h]; exact hl
      · rw [Array.getD_eq_getD_getElem?, Array.getElem?_eq_none (by omega)] at hl
        simp at hl
theorem wp_region_inv {P : Program} {ops : Array Oper} {id : Nat} {Q : Exit → Act → World → Prop} {a : Act} {w : World} (Inv : (Nat → Bool) → Act → World → Prop) (hm : P.follows .mixedOrders = true) (hw : waitsB ops = true)
    (h0 : Inv (fun _ => false) a w.drew)
    (hstep : ∀ i o, ops[i]? = some o → ∀ L a w, Inv L a w → L i = false → (∀ e ∈ o.after, Region.binds .any e = true → L e.on = true) → wpOp P ops Q i (fun a' w' => Inv (upd L i) a' w') a w)
    (hdone : ∀ L a w, (∀ i, i < ops.size → L i = true) → Inv L a w → Q .normal a w) : (Code.region id ops true).wp P Q a w :=
  wp_region_any hm (wpAny_inv Inv hw hstep hdone ops.size (Array.replicate ops.size false) (fun _ => false) a w.drew (by simp) (by
    unfold unlisted
    simp) (fun i hi => by rw [Array.getD_eq_getD_getElem?, Array.getElem?_replicate, if_pos hi]; rfl) h0)
/-- the same, with what the slots hold told from the frame at the region's start -/
theorem wp_region_inv2 {P : Program} {ops : Array Oper} {id : Nat} {Q : Exit → Act → World → Prop} {a : Act} {w : World} (Inv : Act → (Nat → Bool) → Act → World → Prop) (hm : P.follows .mixedOrders = true) (hw : waitsB ops = true)
    (h0 : Inv a (fun _ => false) a w.drew)
    (hstep : ∀ i o, ops[i]? = some o → ∀ L a' w, Inv a L a' w → L i = false → (∀ e ∈ o.after, Region.binds .any e = true → L e.on = true) → wpOp P ops Q i (fun a'' w' => Inv a (upd L i) a'' w') a' w)
    (hdone : ∀ L a' w, (∀ i, i < ops.size → L i = true) → Inv a L a' w → Q .normal a' w) : (Code.region id ops true).wp P Q a w :=
  wp_region_inv (Inv a) hm hw h0 hstep hdone
theorem wpOp_run {P : Program} {ops : Array Oper} {Q : Exit → Act → World → Prop} {i : Nat} {K : Act → World → Prop} {a : Act} {w : World} {o : Oper} (hi : ops[i]? = some o) (hg : o.guard = none) (h : Oper.wp P o a w K Q) : wpOp P ops Q i K a w := by
  unfold wpOp
  rw [hi]
  simp only [Region.wanted, hg]
  exact .inl h
end Go.Proofs.Ytmfcknlpbliehab

/- A region that draws its order over loads, calls, boxes and stores into these boxes: what its slots hold and its boxes, told by what has been done. -/
namespace Go.Proofs.Ytmfcknlpbliehab
open Go.RowKit
set_option linter.unusedVariables false
theorem ready_ofM {md : Region.Mode} {ops : Array Oper} {listed : Array Bool} {i : Nat} {o : Oper} (hi : ops[i]? = some o) (h1 : listed.getD i true = false) (h2 : ∀ e ∈ o.after, Region.binds md e = true → listed.getD e.on false = true) : i ∈ Region.ready md ops listed := by
  unfold Region.ready
  rw [List.mem_filter, Bool.and_eq_true]
  have hlt : i < ops.size := by
    rcases Nat.lt_or_ge i ops.size with h | h
    · exact h
    · rw [Array.getElem?_eq_none h] at hi; cases hi
  refine ⟨List.mem_range.2 hlt, by rw [h1]; rfl, ?_⟩
  rw [hi]
  simp only [Option.map_some, Option.getD_some]
  refine Array.all_eq_true_iff_forall_mem.2 fun e he => ?_
  cases hb : Region.binds md e with
  | false => rfl
  | true => rw [h2 e he hb]; rfl
/-- each operation waits for earlier ones alone -/
def waitsM (md : Region.Mode) (ops : Array Oper) : Bool := (List.range ops.size).all fun i => ((ops[i]?).map fun o => o.after.all fun e => !Region.binds md e || decide (e.on < i)).getD true
theorem waits_ofM {md : Region.Mode} {ops : Array Oper} (h : waitsM md ops = true) {i : Nat} {o : Oper} (hi : ops[i]? = some o) : ∀ e ∈ o.after, Region.binds md e = true → e.on < i := fun e he hb => by
  unfold waitsM at h
  have hlt : i < ops.size := by
    rcases Nat.lt_or_ge i ops.size with h | h
    · exact h
    · rw [Array.getElem?_eq_none h] at hi; cases hi
  have := List.all_eq_true.1 h i (List.mem_range.2 hlt)
  rw [hi] at this
  simp only [Option.map_some, Option.getD_some] at this
  have h3 := (Array.all_eq_true_iff_forall_mem.1 this) e he
  rw [hb] at h3
  simpa using h3
theorem all_listedM {md : Region.Mode} {ops : Array Oper} {listed : Array Bool} (hw : waitsM md ops = true) (hs : listed.size = ops.size) (hr : Region.ready md ops listed = []) : ∀ i, i < ops.size → listed.getD i false = true := by
  intro i
  induction i using Nat.strongRecOn with
  | _ i ih =>
    intro hi
    refine Classical.byContradiction fun hn => ?_
    have ho : ops[i]? = some ops[i] := Array.getElem?_eq_getElem hi
    have h1 : listed.getD i true = false := by
      rw [Array.getD_eq_getD_getElem?, Array.getElem?_eq_getElem (by omega)] at hn ⊢
      simpa using hn
    have := ready_ofM (md := md) ho h1 (fun e he hb => ih e.on (waits_ofM hw ho e he hb) (by have := waits_ofM hw ho e he hb; omega))
    rw [hr] at this
    cases this
theorem wpAny_invM {P : Program} {ops : Array Oper} {md : Region.Mode} {Q : Exit → Act → World → Prop} (Inv : (Nat → Bool) → Act → World → Prop) (hw : waitsM md ops = true)
    (hstep : ∀ i o, ops[i]? = some o → ∀ L a w, Inv L a w → L i = false → (∀ e ∈ o.after, Region.binds md e = true → L e.on = true) → wpOp P ops Q i (fun a' w' => Inv (upd L i) a' w') a w)
    (hdone : ∀ L a w, (∀ i, i < ops.size → L i = true) → Inv L a w → Q .normal a w) :
    ∀ (fuel : Nat) (listed : Array Bool) (L : Nat → Bool) (a : Act) (w : World), listed.size = ops.size → unlisted listed ≤ fuel → (∀ i, i < ops.size → L i = listed.getD i false) → Inv L a w → wpAny P md ops Q fuel listed a w := by
  have hfin : ∀ (listed : Array Bool) (L : Nat → Bool) (a : Act) (w : World), listed.size = ops.size → (∀ i, i < ops.size → L i = listed.getD i false) → Inv L a w → Region.ready md ops listed = [] → Q .normal a w := fun listed L a w hs hL hI hr =>
    hdone L a w (fun i hi => by rw [hL i hi]; exact all_listedM hw hs hr i hi) hI
  intro fuel
  induction fuel with
  | zero =>
    intro listed L a w hs hu hL hI
    have hr : Region.ready md ops listed = [] := by
      refine List.eq_nil_iff_forall_not_mem.2 fun i hi => ?_
      obtain ⟨o, _, h1, _⟩ := ready_mem hi
      have := unlisted_set h1
      omega
    exact ⟨hr, hfin listed L a w hs hL hI hr⟩
  | succ fuel ih =>
    intro listed L a w hs hu hL hI
    refine ⟨hfin listed L a w hs hL hI, fun i hi => ?_⟩
    obtain ⟨o, ho, h1, h2⟩ := ready_mem hi
    have hlt : i < ops.size := by
      rcases Nat.lt_or_ge i ops.size with h | h
      · exact h
      · rw [Array.getElem?_eq_none h] at ho; cases ho
    have h1' : listed.getD i false = false := by
      rw [Array.getD_eq_getD_getElem?, Array.getElem?_eq_getElem (by omega)] at h1 ⊢
      simpa using h1
    have hu2 := unlisted_set h1
    refine wpOp_mono (fun a' w' h => ih (listed.setIfInBounds i true) (upd L i) a' w' (by simpa using hs) (by omega) (fun j hj => ?_) h) (hstep i o ho L a w hI (by rw [hL i hlt]; exact h1') (fun e he hb => ?_))
    · by_cases e : j = i
      · subst e
        rw [upd_same, Array.getD_eq_getD_getElem?, Array.getElem?_setIfInBounds_self_of_lt (by omega)]
        rfl
      · rw [upd_other e, hL j hj, Array.getD_eq_getD_getElem?, Array.getD_eq_getD_getElem?, Array.getElem?_setIfInBounds_ne (fun x => e x.symm)]
    · have hl := h2 e he hb
      rcases Nat.lt_or_ge e.on ops.size with h | h
      · rw [hL _ h]; exact hl
      · rw [Array.getD_eq_getD_getElem?, Array.getElem?_eq_none (by omega)] at hl
        simp at hl
theorem wp_region_invM {P : Program} {ops : Array Oper} {id : Nat} {Q : Exit → Act → World → Prop} {a : Act} {w : World} (Inv : (Nat → Bool) → Act → World → Prop) (hm : P.follows .mixedOrders = true) (hw : waitsM .any ops = true)
    (h0 : Inv (fun _ => false) a w.drew)
    (hstep : ∀ i o, ops[i]? = some o → ∀ L a w, Inv L a w → L i = false → (∀ e ∈ o.after, Region.binds .any e = true → L e.on = true) → wpOp P ops Q i (fun a' w' => Inv (upd L i) a' w') a w)
    (hdone : ∀ L a w, (∀ i, i < ops.size → L i = true) → Inv L a w → Q .normal a w) : (Code.region id ops true).wp P Q a w :=
  wp_region_any hm (wpAny_invM Inv hw hstep hdone ops.size (Array.replicate ops.size false) (fun _ => false) a w.drew (by simp) (by
    unfold unlisted
    simp) (fun i hi => by rw [Array.getD_eq_getD_getElem?, Array.getElem?_replicate, if_pos hi]; rfl) h0)
/-- the same, with what the slots hold told from the frame at the region's start -/
theorem wp_region_inv3 {P : Program} {ops : Array Oper} {id : Nat} {Q : Exit → Act → World → Prop} {a : Act} {w : World} (Inv : Act → (Nat → Bool) → Act → World → Prop) (hm : P.follows .mixedOrders = true) (hw : waitsM .any ops = true)
    (h0 : Inv a (fun _ => false) a w.drew)
    (hstep : ∀ i o, ops[i]? = some o → ∀ L a' w, Inv a L a' w → L i = false → (∀ e ∈ o.after, Region.binds .any e = true → L e.on = true) → wpOp P ops Q i (fun a'' w' => Inv a (upd L i) a'' w') a' w)
    (hdone : ∀ L a' w, (∀ i, i < ops.size → L i = true) → Inv a L a' w → Q .normal a' w) : (Code.region id ops true).wp P Q a w :=
  wp_region_invM (Inv a) hm hw h0 hstep hdone
def upg (u : Nat → Value) (i : Nat) (v : Value) : Nat → Value := fun j => if j = i then v else u j
theorem upg_same (u : Nat → Value) (i : Nat) (v : Value) : upg u i v i = v := by simp [upg]
theorem upg_other {u : Nat → Value} {i j : Nat} {v : Value} (h : j ≠ i) : upg u i v j = u j := by simp [upg, h]
def upb (u : Nat → Nat) (i v : Nat) : Nat → Nat := fun j => if j = i then v else u j
theorem upb_same (u : Nat → Nat) (i v : Nat) : upb u i v i = v := by simp [upb]
theorem upb_other {u : Nat → Nat} {i j v : Nat} (h : j ≠ i) : upb u i v j = u j := by simp [upb, h]
/-- the cells of a block -/
def CellsAt (W : World) (b : Nat) (cs : List Value) : Prop := ∀ i v, cs[i]? = some v → W.cell? ⟨b, i, none⟩ = some v ∧ W.frozen? ⟨b, i, none⟩ = false
/-- a box, or a literal: the operation that makes it, the one that stores (none for a literal), its slot's value, what it holds before and behind -/
structure BoxG where
  bk : Nat
  st : Nat
  lit : Bool
  pt : Nat → Value
  ty : TypeId
  z : List Value
  cs : List Value
structure RG (w0 : World) (E : Nat → Value) (isV : Nat → Bool) (bx : List BoxG) (L : Nat → Bool) (W : World) (u : Nat → Value) (bb : Nat → Nat) : Prop where
  below : Below w0.heap.size w0 W
  val : ∀ j, isV j = true → L j = true → u j = E j
  box : ∀ t ∈ bx, L t.bk = true → u t.bk = t.pt (bb t.bk) ∧ w0.heap.size ≤ bb t.bk ∧ bb t.bk < W.heap.size ∧ CellsAt W (bb t.bk) (if t.lit = false ∧ L t.st = true then t.cs else t.z) ∧ ((t.lit = true ∨ L t.st = false) → W.heap[bb t.bk]? = some (.cells t.z.toArray t.ty (0, 0)))
  sep : ∀ t ∈ bx, ∀ t' ∈ bx, t.bk ≠ t'.bk → L t.bk = true → L t'.bk = true → bb t.bk ≠ bb t'.bk
  dep : ∀ t ∈ bx, t.lit = false → L t.st = true → L t.bk = true
/-- numbers of operations are no two things at once -/
structure OkG (isV : Nat → Bool) (bx : List BoxG) : Prop where
  vm : ∀ t ∈ bx, isV t.bk = false
  vs : ∀ t ∈ bx, isV t.st = false
  ms : ∀ t ∈ bx, ∀ t' ∈ bx, t.bk ≠ t'.st
  mm : ∀ t ∈ bx, ∀ t' ∈ bx, t.bk = t'.bk → t = t'
  ss : ∀ t ∈ bx, ∀ t' ∈ bx, t.st = t'.st → t = t'
  len : ∀ t ∈ bx, t.cs.length = t.z.length
namespace RG
variable {w0 W W' : World} {E : Nat → Value} {isV : Nat → Bool} {bx : List BoxG} {L : Nat → Bool} {u : Nat → Value} {bb : Nat → Nat}
theorem start (w : World) (u : Nat → Value) : RG w E isV bx (fun _ => false) w.drew u (fun _ => 0) :=
  ⟨(Below.refl _ _).drew, (fun j _ h => by cases h), (fun t _ h => by cases h), (fun t _ t' _ _ h => by cases h), (fun t _ _ h => by cases h)⟩
theorem CellsAt.kept {b : Nat} {cs : List Value} (h : CellsAt W b cs) (hb : b < W.heap.size) (hw : Below W.heap.size W W') : CellsAt W' b cs := fun i v hi =>
  ⟨(hw.cell (p := ⟨b, i, none⟩) hb).trans (h i v hi).1, (hw.frozen (p := ⟨b, i, none⟩) hb).trans (h i v hi).2⟩
theorem kept (h : RG w0 E isV bx L W u bb) (hw : Below W.heap.size W W') : RG w0 E isV bx L W' u bb where
  below := h.below.trans (hw.mono h.below.size)
  val := h.val
  box := fun t ht hL => by
    obtain ⟨h1, h2, h3, h4, h5⟩ := h.box t ht hL
    exact ⟨h1, h2, Nat.lt_of_lt_of_le h3 hw.size, CellsAt.kept h4 h3 hw, fun e => (hw.block _ h3).trans (h5 e)⟩
  sep := h.sep
  dep := h.dep
/-- a slot is set -/
theorem setv (ok : OkG isV bx) (h : RG w0 E isV bx L W u bb) (j : Nat) (hj : isV j = true) (v : Value) (hv : v = E j) : RG w0 E isV bx (upd L j) W (upg u j v) bb where
  below := h.below
  val := fun k hk e => by
    by_cases c : k = j
    · subst c; rw [upg_same]; exact hv
    · rw [upg_other c]; exact h.val k hk (by rwa [upd_other c] at e)
  box := fun t ht hL => by
    have n1 : t.bk ≠ j := fun e => by have := ok.vm t ht; rw [e, hj] at this; cases this
    have n2 : t.st ≠ j := fun e => by have := ok.vs t ht; rw [e, hj] at this; cases this
    rw [upd_other n1] at hL
    rw [upg_other n1, upd_other n2]
    exact h.box t ht hL
  sep := fun t ht t' ht' hne h1 h2 => by
    have n1 : t.bk ≠ j := fun e => by have := ok.vm t ht; rw [e, hj] at this; cases this
    have n2 : t'.bk ≠ j := fun e => by have := ok.vm t' ht'; rw [e, hj] at this; cases this
    rw [upd_other n1] at h1
    rw [upd_other n2] at h2
    exact h.sep t ht t' ht' hne h1 h2
  dep := fun t ht hl e => by
    have n1 : t.bk ≠ j := fun e => by have := ok.vm t ht; rw [e, hj] at this; cases this
    have n2 : t.st ≠ j := fun e => by have := ok.vs t ht; rw [e, hj] at this; cases this
    rw [upd_other n2] at e
    rw [upd_other n1]
    exact h.dep t ht hl e
/-- a box is made -/
theorem alloc (ok : OkG isV bx) (h : RG w0 E isV bx L W u bb) (t : BoxG) (ht : t ∈ bx) (hL : L t.bk = false) : RG w0 E isV bx (upd L t.bk) (W.alloc (.cells t.z.toArray t.ty)) (upg u t.bk (t.pt W.heap.size)) (upb bb t.bk W.heap.size) := by
  have hw : Below W.heap.size W (W.alloc (.cells t.z.toArray t.ty)) := (Below.refl _ _).alloc (Nat.le_refl _) _
  have hk := h.kept hw
  have nst : t.lit = false → L t.st = false := fun hl => by
    cases e : L t.st with
    | false => rfl
    | true => have := h.dep t ht hl e; rw [hL] at this; cases this
  exact {
    below := hk.below
    val := fun k hk2 e => by
      have n : k ≠ t.bk := fun c => by have := ok.vm t ht; rw [← c, hk2] at this; cases this
      rw [upg_other n]
      exact h.val k hk2 (by rwa [upd_other n] at e)
    box := fun t' ht' e => by
      by_cases c : t'.bk = t.bk
      · obtain rfl := ok.mm t' ht' t ht c
        rw [upg_same, upb_same]
        refine ⟨rfl, h.below.size, by simp, ?_, fun _ => by show (W.heap.push _)[W.heap.size]? = _; simp⟩
        rw [upd_other (fun c2 => ok.ms t' ht' t' ht' c2.symm)]
        intro i v hi
        rw [if_neg (by rintro ⟨e1, e2⟩; rw [nst e1] at e2; cases e2)] at hi
        have hlt : i < t'.z.length := by
          rcases Nat.lt_or_ge i t'.z.length with h1 | h1
          · exact h1
          · rw [List.getElem?_eq_none h1] at hi; cases hi
        constructor
        · simp [go_sem, hi]
        · simp [go_sem]
      · rw [upd_other c] at e
        rw [upg_other c, upb_other c, upd_other (fun c2 => ok.ms t ht t' ht' c2.symm)]
        exact hk.box t' ht' e
    sep := fun t1 h1 t2 h2 hne e1 e2 => by
      by_cases c1 : t1.bk = t.bk
      · have c2 : t2.bk ≠ t.bk := fun c => hne (c1.trans c.symm)
        rw [upd_other c2] at e2
        have := (h.box t2 h2 e2).2.2.1
        rw [c1, upb_same, upb_other c2]
        omega
      · rw [upd_other c1] at e1
        by_cases c2 : t2.bk = t.bk
        · have := (h.box t1 h1 e1).2.2.1
          rw [c2, upb_same, upb_other c1]
          omega
        · rw [upd_other c2] at e2
          rw [upb_other c1, upb_other c2]
          exact h.sep t1 h1 t2 h2 hne e1 e2
    dep := fun t' ht' hl e => by
      rw [upd_other (fun c2 => ok.ms t ht t' ht' c2.symm)] at e
      by_cases c : t'.bk = t.bk
      · rw [c]; exact upd_same _ _
      · rw [upd_other c]; exact h.dep t' ht' hl e }
/-- cells stored one behind the other -/
def setN (W : World) (b : Nat) : Nat → List Value → World
  | _, [] => W
  | i, v :: vs => setN (W.setCell ⟨b, i, none⟩ v) b (i + 1) vs
theorem setN_size (b : Nat) : ∀ (vs : List Value) (i : Nat) (W : World), (setN W b i vs).heap.size = W.heap.size
  | [], _, _ => rfl
  | v :: vs, i, W => by rw [setN, setN_size b vs]; simp [World.setCell]
theorem setN_frozen (b : Nat) : ∀ (vs : List Value) (i : Nat) (W : World) (p : Addr), (setN W b i vs).frozen? p = W.frozen? p
  | [], _, _, _ => rfl
  | v :: vs, i, W, p => by rw [setN, setN_frozen b vs, World.frozen?_setCell]
theorem setN_before (b : Nat) : ∀ (vs : List Value) (i : Nat) (W : World) (c j : Nat), (c ≠ b ∨ j < i) → (setN W b i vs).cell? ⟨c, j, none⟩ = W.cell? ⟨c, j, none⟩
  | [], _, _, _, _, _ => rfl
  | v :: vs, i, W, c, j, h => by
    rw [setN, setN_before b vs (i + 1) _ c j (by omega), World.cell?_setCell_other _ _ _ _ (by
      intro e
      injection e with e1 e2
      omega)]
theorem setN_at (b : Nat) : ∀ (vs : List Value) (i : Nat) (W : World) (j : Nat) (v : Value), vs[j]? = some v → (∃ z, W.cell? ⟨b, i + j, none⟩ = some z) → (setN W b i vs).cell? ⟨b, i + j, none⟩ = some v
  | [], _, _, _, _, h, _ => by simp at h
  | v :: vs, i, W, 0, v', h, hz => by
    rw [setN, setN_before b vs (i + 1) _ b (i + 0) (.inr (by omega))]
    simp at h
    subst h
    obtain ⟨z, hz⟩ := hz
    exact World.cell?_setCell_same' _ _ _ (by rw [Nat.add_zero] at hz; rw [hz]; rfl)
  | v :: vs, i, W, j + 1, v', h, hz => by
    rw [setN, show i + (j + 1) = (i + 1) + j by omega]
    refine setN_at b vs (i + 1) _ j v' (by simpa using h) ?_
    obtain ⟨z, hz⟩ := hz
    refine ⟨z, ?_⟩
    rw [World.cell?_setCell_other _ _ _ _ (by
      intro e
      injection e with e1 e2
      omega), show (i + 1) + j = i + (j + 1) by omega]
    exact hz
theorem setN_below {B b : Nat} (hB : B ≤ b) : ∀ (vs : List Value) (i : Nat) (W : World) (w0 : World), Below B w0 W → Below B w0 (setN W b i vs)
  | [], _, _, _, h => h
  | v :: vs, i, W, w0, h => setN_below hB vs (i + 1) _ w0 (h.setCell (p := ⟨b, i, none⟩) hB v)
theorem setN_block (b : Nat) : ∀ (vs : List Value) (i : Nat) (W : World) (c : Nat), c ≠ b → (setN W b i vs).heap[c]? = W.heap[c]?
  | [], _, _, _, _ => rfl
  | v :: vs, i, W, c, h => by
    rw [setN, setN_block b vs (i + 1) _ c h]
    exact Below.heap_setCell _ _ _ _ h
/-- what comes is stored -/
theorem store (ok : OkG isV bx) (h : RG w0 E isV bx L W u bb) (t : BoxG) (ht : t ∈ bx) (hl : t.lit = false) (hm : L t.bk = true) (hL : L t.st = false) : RG w0 E isV bx (upd L t.st) (setN W (bb t.bk) 0 t.cs) u bb := by
  obtain ⟨k1, k2, k3, k4, k5⟩ := h.box t ht hm
  rw [if_neg (by rintro ⟨_, e2⟩; rw [hL] at e2; cases e2)] at k4
  exact {
    below := setN_below k2 _ _ _ _ h.below
    val := fun k hk e => h.val k hk (by rwa [upd_other (fun c => by have := ok.vs t ht; rw [← c, hk] at this; cases this)] at e)
    box := fun t' ht' e => by
      rw [upd_other (fun c2 => ok.ms t' ht' t ht c2)] at e
      by_cases c : t'.bk = t.bk
      · obtain rfl := ok.mm t' ht' t ht c
        rw [upd_same, if_pos ⟨hl, rfl⟩]
        refine ⟨k1, k2, by rw [setN_size]; exact k3, ?_, fun e2 => by
          rcases e2 with e2 | e2
          · rw [hl] at e2; cases e2
          · cases e2⟩
        intro i v hi
        have hlt : i < t'.z.length := by
          rw [← ok.len t' ht']
          rcases Nat.lt_or_ge i t'.cs.length with h1 | h1
          · exact h1
          · rw [List.getElem?_eq_none h1] at hi; cases hi
        have hz := k4 i (t'.z[i]) (List.getElem?_eq_getElem hlt)
        constructor
        · have := setN_at (bb t'.bk) t'.cs 0 W i v hi ⟨_, by rw [Nat.zero_add]; exact hz.1⟩
          rwa [Nat.zero_add] at this
        · rw [setN_frozen]; exact hz.2
      · obtain ⟨m1, m2, m3, m4, m5⟩ := h.box t' ht' e
        have hne : bb t'.bk ≠ bb t.bk := h.sep t' ht' t ht c e hm
        have hst : t'.st ≠ t.st := fun c2 => c (by rw [ok.ss t' ht' t ht c2])
        rw [upd_other hst]
        refine ⟨m1, m2, by rw [setN_size]; exact m3, ?_, fun e2 => by rw [setN_block _ _ _ _ _ hne]; exact m5 e2⟩
        intro i v hi
        have := m4 i v hi
        exact ⟨by rw [setN_before _ _ _ _ _ _ (.inl hne)]; exact this.1, by rw [setN_frozen]; exact this.2⟩
    sep := fun t1 h1 t2 h2 hne e1 e2 => h.sep t1 h1 t2 h2 hne (by rwa [upd_other (ok.ms t1 h1 t ht)] at e1) (by rwa [upd_other (ok.ms t2 h2 t ht)] at e2)
    dep := fun t' ht' hl' e => by
      rw [upd_other (ok.ms t' ht' t ht)]
      by_cases c : t'.st = t.st
      · rw [ok.ss t' ht' t ht c]; exact hm
      · rw [upd_other c] at e; exact h.dep t' ht' hl' e }
end RG
/-- a literal is a row of its own -/
theorem lit_row {W : World} {b n size : Nat} {e : TypeId} {zs : List Value} (h : W.heap[b]? = some (.cells zs.toArray e (0, 0))) (hn : zs.length = n * size) (hm : n ≤ maxLen) : W.ownsRow b e size (.slice (some ⟨b, 0, none⟩) n n) n zs :=
  ⟨hn, .inr ⟨b, n, zs.toArray, rfl, Nat.le_refl _, h, Nat.le_refl _, hm, by simpa using hn, by rw [← hn]; simp⟩⟩
theorem put_same (a : Act) (s : Nat) : a.put (some s) (a.tmps.getD s undef) = a := by
  unfold Act.put
  have : a.tmps.setIfInBounds s (a.tmps.getD s undef) = a.tmps := by
    apply Array.ext_getElem?
    intro i
    rw [Array.getElem?_setIfInBounds]
    by_cases h : s = i
    · subst h
      rw [if_pos rfl]
      by_cases h2 : s < a.tmps.size
      · rw [if_pos h2, Array.getElem?_eq_getElem h2, Array.getD_eq_getD_getElem?, Array.getElem?_eq_getElem h2]
        rfl
      · rw [if_neg h2, Array.getElem?_eq_none (by omega)]
    · rw [if_neg h]
  simp only [this]
end Go.Proofs.Ytmfcknlpbliehab

/- The program's leadNorthWest, CountApart. -/
namespace Go.Proofs.Ytmfcknlpbliehab
open Go.RowKit
set_option linter.unusedVariables false
def e_ld4 (g o n c j : Nat) (a b p q : Int) : Nat → Value
  | 0 => .slice (some ⟨g, o, none⟩) n c
  | 1 => .int .i64 ((j : Int) + 1)
  | 2 => .int .i64 (j : Int)
  | 3 => .pointer (some ⟨g, o + j * 2, none⟩)
  | 4 => .agg #[.int .i64 a, .int .i64 b]
  | 5 => .agg #[.int .i64 a, .int .i64 b]
  | 6 => .slice (some ⟨g, o, none⟩) n c
  | 7 => .int .i64 ((j : Int) + 1)
  | 8 => .pointer (some ⟨g, o + (j + 1) * 2, none⟩)
  | 9 => .agg #[.int .i64 p, .int .i64 q]
  | 10 => .agg #[.int .i64 p, .int .i64 q]
  | _ => undef
def v_ld4 (j : Nat) : Bool := ([true, true, true, true, true, true, true, true, true, true, true, false, false, false, false] : List Bool).getD j false
def t0_ld4 (g o n c j : Nat) (a b p q : Int) : BoxG := ⟨11, 13, false, fun b => .pointer (some ⟨b, 0, none⟩), 91, [.int .i64 0, .int .i64 0], [.int .i64 a, .int .i64 b]⟩
def t1_ld4 (g o n c j : Nat) (a b p q : Int) : BoxG := ⟨12, 14, false, fun b => .pointer (some ⟨b, 0, none⟩), 91, [.int .i64 0, .int .i64 0], [.int .i64 p, .int .i64 q]⟩
def b_ld4 (g o n c j : Nat) (a b p q : Int) : List BoxG := [t0_ld4 g o n c j a b p q, t1_ld4 g o n c j a b p q]
theorem m0_ld4 (g o n c j : Nat) (a b p q : Int) : t0_ld4 g o n c j a b p q ∈ b_ld4 g o n c j a b p q := by simp [b_ld4]
theorem m1_ld4 (g o n c j : Nat) (a b p q : Int) : t1_ld4 g o n c j a b p q ∈ b_ld4 g o n c j a b p q := by simp [b_ld4]
theorem ok_ld4 (g o n c j : Nat) (a b p q : Int) : OkG v_ld4 (b_ld4 g o n c j a b p q) := by
  refine ⟨?_, ?_, ?_, ?_, ?_, ?_⟩ <;> simp [b_ld4, v_ld4, t0_ld4, t1_ld4]
theorem td_iff {bx bY ax aY : Int} : tdP bx bY ax aY = true ↔ (bx ≤ ax ∧ aY ≤ bY) ∧ ¬ (ax = bx ∧ aY = bY) := by
  unfold tdP
  simp only [Bool.and_eq_true, Bool.not_eq_true', Bool.or_eq_false_iff, decide_eq_false_iff_not, Bool.and_eq_false_iff, beq_eq_false_iff_ne]
  omega
/-- neighbours tell -/
theorem tdB_near {n : Nat} {xs : List Int} (h : ∀ j, j + 1 < n → tdC xs (j + 1) j = true) : tdB n xs = true := by
  refine tdB_yes fun j hj i hi => ?_
  induction j with
  | zero => omega
  | succ j ih =>
    have h1 := h j hj
    by_cases e : i = j
    · subst e; exact h1
    · have h2 := ih (by omega) (by omega)
      unfold tdC at *
      rw [td_iff] at *
      omega
set_option maxRecDepth 100000 in
set_option maxHeartbeats 4000000 in
theorem leadNW_any (v : Value) (n : Nat) (xs : List Int) (w : World) (h : RCels w v n xs) (h1 : 1 ≤ n) (hn : n ≤ 4) : Calls Try.prog 57 #[v] w (Ret w (.bool (tdB n xs))) := by
  have HR := Lib.hid h
  have HC : Hid (∀ x y w, Calls Try.prog 70 #[celV x y] w (Ret w (celV x y))) := Lib.hid cellPlace_ret
  have HE := eq_place
  have HN : Hid (∀ j, j + 1 < n → tdC xs (j + 1) j = false → tdB n xs = false) := Lib.hid fun j hj h => tdB_no hj (Nat.lt_succ_self j) h
  have HY : Hid ((∀ j, j + 1 < n → tdC xs (j + 1) j = true) → tdB n xs = true) := Lib.hid tdB_near
  obtain ⟨g, o, c, rfl, hg, -⟩ := h.cells (by omega)
  clear h hg
  generalize tdB n xs = T at *
  go_enter Try.func57, Try.ntmps57
  go_wp2_with fail
  go_loopw [3] (fun i wr => ∃ j : Nat, j + 1 ≤ n ∧ i = .int .i64 ((j : Int) + 1) ∧ (∀ p, p < j → tdC xs (p + 1) p = true) ∧ Below w.heap.size w wr) (fun i _ => n - (intOf i).toNat)
  case atStart => exact ⟨0, h1, rfl, fun p hp => absurd hp (by omega), Below.refl _ _⟩
  case round =>
    obtain ⟨j, hj, rfl, hall, hb⟩ := hrel
    by_cases hlt : j + 1 < n
    · have i1 : (j : Int) + 1 < (n : Int) := by omega
      have i2 : 0 ≤ (j : Int) := by omega
      have i3 : (j : Int) < (n : Int) := by omega
      have HALL := Lib.hid hall
      have HB := Lib.hid hb
      obtain ⟨a, hva⟩ : ∃ a, xs.getD (j * 2) 0 = a := ⟨_, rfl⟩
      obtain ⟨b, hvb⟩ : ∃ b, xs.getD (j * 2 + 1) 0 = b := ⟨_, rfl⟩
      obtain ⟨p, hvp⟩ : ∃ p, xs.getD ((j + 1) * 2) 0 = p := ⟨_, rfl⟩
      obtain ⟨q, hvq⟩ : ∃ q, xs.getD ((j + 1) * 2 + 1) 0 = q := ⟨_, rfl⟩
      have HTD : Hid (tdC xs (j + 1) j = tdP p q a b) := Lib.hid (by unfold tdC; rw [hva, hvb, hvp, hvq])
      have HVa := Lib.hid hva
      have HVb := Lib.hid hvb
      have HVp := Lib.hid hvp
      have HVq := Lib.hid hvq
      clear hall hb hva hvb hvp hvq
      go_wp2_with fail
      have HRG0 : ∀ (ac : Act) (ww : World), ∃ (uu : Nat → Value) (bb : Nat → Nat), ac = (((((((((((((ac.put (some 12) (uu 0)).put (some 13) (uu 1)).put (some 14) (uu 2)).put (some 15) (uu 3)).put (some 16) (uu 4)).put (some 17) (uu 5)).put (some 18) (uu 6)).put (some 19) (uu 7)).put (some 20) (uu 8)).put (some 21) (uu 9)).put (some 22) (uu 10)).put (some 4) (uu 11)).put (some 5) (uu 12)) ∧ RG ww (e_ld4 g o n c j a b p q) v_ld4 (b_ld4 g o n c j a b p q) (fun _ => false) ww.drew uu bb := fun ac ww => ⟨fun j => ac.tmps.getD (([12, 13, 14, 15, 16, 17, 18, 19, 20, 21, 22, 4, 5, 0, 0] : List Nat).getD j 0) undef, fun _ => 0, (by show ac = (((((((((((((ac.put (some 12) (ac.tmps.getD 12 undef)).put (some 13) (ac.tmps.getD 13 undef)).put (some 14) (ac.tmps.getD 14 undef)).put (some 15) (ac.tmps.getD 15 undef)).put (some 16) (ac.tmps.getD 16 undef)).put (some 17) (ac.tmps.getD 17 undef)).put (some 18) (ac.tmps.getD 18 undef)).put (some 19) (ac.tmps.getD 19 undef)).put (some 20) (ac.tmps.getD 20 undef)).put (some 21) (ac.tmps.getD 21 undef)).put (some 22) (ac.tmps.getD 22 undef)).put (some 4) (ac.tmps.getD 4 undef)).put (some 5) (ac.tmps.getD 5 undef)); simp only [put_same]), RG.start _ _⟩
      refine wp_region_inv3 (fun a0 LL ac W => ∃ (uu : Nat → Value) (bb : Nat → Nat), ac = (((((((((((((a0.put (some 12) (uu 0)).put (some 13) (uu 1)).put (some 14) (uu 2)).put (some 15) (uu 3)).put (some 16) (uu 4)).put (some 17) (uu 5)).put (some 18) (uu 6)).put (some 19) (uu 7)).put (some 20) (uu 8)).put (some 21) (uu 9)).put (some 22) (uu 10)).put (some 4) (uu 11)).put (some 5) (uu 12)) ∧ RG wr (e_ld4 g o n c j a b p q) v_ld4 (b_ld4 g o n c j a b p q) LL W uu bb) (by kernel_rfl) (by kernel_rfl) (HRG0 _ _) ?_ ?_
      · rintro jj op hop LL a' WW ⟨uu, bb, rfl, hF⟩ hL hdep
        clear HRG0
        match jj, hop with
        | 0, hop =>
          simp at hop; subst hop
          refine wpOp_run rfl rfl ?_
          simp only [Act.put, List.setIfInBounds_toArray, List.set_cons_succ, List.set_cons_zero]
          go_simp
          refine ⟨_, ?_, _, hF.setv (ok_ld4 g o n c j a b p q) 0 rfl (.slice (some ⟨g, o, none⟩) n c) rfl⟩
          simp [upg]
        | 1, hop =>
          simp at hop; subst hop
          refine wpOp_run rfl rfl ?_
          simp only [Act.put, List.setIfInBounds_toArray, List.set_cons_succ, List.set_cons_zero]
          go_simp
          refine ⟨_, ?_, _, hF.setv (ok_ld4 g o n c j a b p q) 1 rfl (.int .i64 ((j : Int) + 1)) rfl⟩
          simp [upg]
        | 2, hop =>
          simp at hop; subst hop
          refine wpOp_run rfl rfl ?_
          simp only [Act.put, List.setIfInBounds_toArray, List.set_cons_succ, List.set_cons_zero]
          have e1 : uu 1 = .int .i64 ((j : Int) + 1) := hF.val 1 rfl (hdep ⟨1, .data⟩ (by simp) rfl)
          simp only [e1]
          have k1 := IntWalk.i64_in ((j : Int) + 1 - 1) (by omega)
          have k2 : (j : Int) + 1 - 1 = (j : Int) := by omega
          rw [k2] at k1
          go_simp
          refine ⟨_, ?_, _, hF.setv (ok_ld4 g o n c j a b p q) 2 rfl (.int .i64 (j : Int)) rfl⟩
          simp [upg, e1]
        | 3, hop =>
          simp at hop; subst hop
          refine wpOp_run rfl rfl ?_
          simp only [Act.put, List.setIfInBounds_toArray, List.set_cons_succ, List.set_cons_zero]
          have e0 : uu 0 = .slice (some ⟨g, o, none⟩) n c := hF.val 0 rfl (hdep ⟨0, .data⟩ (by simp) rfl)
          have e2 : uu 2 = .int .i64 (j : Int) := hF.val 2 rfl (hdep ⟨2, .data⟩ (by simp) rfl)
          simp only [e0, e2]
          go_simp
          refine ⟨_, ?_, _, hF.setv (ok_ld4 g o n c j a b p q) 3 rfl (.pointer (some ⟨g, o + j * 2, none⟩)) rfl⟩
          simp [upg, e0, e2]
        | 4, hop =>
          simp at hop; subst hop
          refine wpOp_run rfl rfl ?_
          simp only [Act.put, List.setIfInBounds_toArray, List.set_cons_succ, List.set_cons_zero]
          have e3 : uu 3 = .pointer (some ⟨g, o + j * 2, none⟩) := hF.val 3 rfl (hdep ⟨3, .data⟩ (by simp) rfl)
          simp only [e3]
          have hr := (HR.out.below (HB.out.trans (hF.below.mono HB.out.size))).at (k := j) (by omega)
          have r0 := hr.1
          have r1 := hr.2
          rw [HVa.out] at r0
          rw [HVb.out] at r1
          clear hr
          go_simp
          refine ⟨_, ?_, _, hF.setv (ok_ld4 g o n c j a b p q) 4 rfl (.agg #[.int .i64 a, .int .i64 b]) rfl⟩
          simp [upg, e3]
        | 5, hop =>
          simp at hop; subst hop
          refine wpOp_run rfl rfl ?_
          simp only [Act.put, List.setIfInBounds_toArray, List.set_cons_succ, List.set_cons_zero]
          have e4 : uu 4 = .agg #[.int .i64 a, .int .i64 b] := hF.val 4 rfl (hdep ⟨4, .data⟩ (by simp) rfl)
          simp only [e4]
          go_simp
          go_at_call 70
          refine (HC.out _ _ _).mono ?_
          rintro en w' ⟨rfl, hbC⟩
          refine ⟨_, ?_, _, (hF.kept hbC).setv (ok_ld4 g o n c j a b p q) 5 rfl (.agg #[.int .i64 a, .int .i64 b]) rfl⟩
          simp [upg, e4]
        | 6, hop =>
          simp at hop; subst hop
          refine wpOp_run rfl rfl ?_
          simp only [Act.put, List.setIfInBounds_toArray, List.set_cons_succ, List.set_cons_zero]
          go_simp
          refine ⟨_, ?_, _, hF.setv (ok_ld4 g o n c j a b p q) 6 rfl (.slice (some ⟨g, o, none⟩) n c) rfl⟩
          simp [upg]
        | 7, hop =>
          simp at hop; subst hop
          refine wpOp_run rfl rfl ?_
          simp only [Act.put, List.setIfInBounds_toArray, List.set_cons_succ, List.set_cons_zero]
          go_simp
          refine ⟨_, ?_, _, hF.setv (ok_ld4 g o n c j a b p q) 7 rfl (.int .i64 ((j : Int) + 1)) rfl⟩
          simp [upg]
        | 8, hop =>
          simp at hop; subst hop
          refine wpOp_run rfl rfl ?_
          simp only [Act.put, List.setIfInBounds_toArray, List.set_cons_succ, List.set_cons_zero]
          have e6 : uu 6 = .slice (some ⟨g, o, none⟩) n c := hF.val 6 rfl (hdep ⟨6, .data⟩ (by simp) rfl)
          have e7 : uu 7 = .int .i64 ((j : Int) + 1) := hF.val 7 rfl (hdep ⟨7, .data⟩ (by simp) rfl)
          simp only [e6, e7]
          have i6 : 0 ≤ (j : Int) + 1 := by omega
          have k5 : ((j : Int) + 1).toNat = j + 1 := by omega
          go_simp
          refine ⟨_, ?_, _, hF.setv (ok_ld4 g o n c j a b p q) 8 rfl (.pointer (some ⟨g, o + (j + 1) * 2, none⟩)) rfl⟩
          simp [upg, e6, e7]
        | 9, hop =>
          simp at hop; subst hop
          refine wpOp_run rfl rfl ?_
          simp only [Act.put, List.setIfInBounds_toArray, List.set_cons_succ, List.set_cons_zero]
          have e8 : uu 8 = .pointer (some ⟨g, o + (j + 1) * 2, none⟩) := hF.val 8 rfl (hdep ⟨8, .data⟩ (by simp) rfl)
          simp only [e8]
          have hr := (HR.out.below (HB.out.trans (hF.below.mono HB.out.size))).at (k := j + 1) (by omega)
          have r0 := hr.1
          have r1 := hr.2
          rw [HVp.out] at r0
          rw [HVq.out] at r1
          clear hr
          go_simp
          refine ⟨_, ?_, _, hF.setv (ok_ld4 g o n c j a b p q) 9 rfl (.agg #[.int .i64 p, .int .i64 q]) rfl⟩
          simp [upg, e8]
        | 10, hop =>
          simp at hop; subst hop
          refine wpOp_run rfl rfl ?_
          simp only [Act.put, List.setIfInBounds_toArray, List.set_cons_succ, List.set_cons_zero]
          have e9 : uu 9 = .agg #[.int .i64 p, .int .i64 q] := hF.val 9 rfl (hdep ⟨9, .data⟩ (by simp) rfl)
          simp only [e9]
          go_simp
          go_at_call 70
          refine (HC.out _ _ _).mono ?_
          rintro en w' ⟨rfl, hbC⟩
          refine ⟨_, ?_, _, (hF.kept hbC).setv (ok_ld4 g o n c j a b p q) 10 rfl (.agg #[.int .i64 p, .int .i64 q]) rfl⟩
          simp [upg, e9]
        | 11, hop =>
          simp at hop; subst hop
          refine wpOp_run rfl rfl ?_
          simp only [Act.put, List.setIfInBounds_toArray, List.set_cons_succ, List.set_cons_zero]
          have HAL := hF.alloc (ok_ld4 g o n c j a b p q) (t0_ld4 g o n c j a b p q) (m0_ld4 g o n c j a b p q) hL
          simp only [t0_ld4] at HAL
          go_simp
          refine ⟨_, ?_, _, HAL⟩
          simp [upg]
        | 12, hop =>
          simp at hop; subst hop
          refine wpOp_run rfl rfl ?_
          simp only [Act.put, List.setIfInBounds_toArray, List.set_cons_succ, List.set_cons_zero]
          have HAL := hF.alloc (ok_ld4 g o n c j a b p q) (t1_ld4 g o n c j a b p q) (m1_ld4 g o n c j a b p q) hL
          simp only [t1_ld4] at HAL
          go_simp
          refine ⟨_, ?_, _, HAL⟩
          simp [upg]
        | 13, hop =>
          simp at hop; subst hop
          refine wpOp_run rfl rfl ?_
          simp only [Act.put, List.setIfInBounds_toArray, List.set_cons_succ, List.set_cons_zero]
          have e5 : uu 5 = .agg #[.int .i64 a, .int .i64 b] := hF.val 5 rfl (hdep ⟨5, .data⟩ (by simp) rfl)
          have dp := hdep ⟨11, .data⟩ (by simp) rfl
          obtain ⟨ep, k2, k3, k4, _⟩ := hF.box (t0_ld4 g o n c j a b p q) (m0_ld4 g o n c j a b p q) dp
          have HST := hF.store (ok_ld4 g o n c j a b p q) (t0_ld4 g o n c j a b p q) (m0_ld4 g o n c j a b p q) rfl dp hL
          simp only [t0_ld4, hL, Bool.false_eq_true, and_false, if_false] at k4
          have s0 := k4 0 _ rfl
          have sc0 := s0.1; have sf0 := s0.2; clear s0
          have s1 := k4 1 _ rfl
          have sc1 := s1.1; have sf1 := s1.2; clear s1
          simp only [RG.setN, t0_ld4, Nat.zero_add] at HST ep
          simp only [e5, ep]
          clear hF k4 k2 k3 dp
          go_simp
          refine ⟨_, ?_, _, HST⟩
          simp [e5, ep]
        | 14, hop =>
          simp at hop; subst hop
          refine wpOp_run rfl rfl ?_
          simp only [Act.put, List.setIfInBounds_toArray, List.set_cons_succ, List.set_cons_zero]
          have e10 : uu 10 = .agg #[.int .i64 p, .int .i64 q] := hF.val 10 rfl (hdep ⟨10, .data⟩ (by simp) rfl)
          have dp := hdep ⟨12, .data⟩ (by simp) rfl
          obtain ⟨ep, k2, k3, k4, _⟩ := hF.box (t1_ld4 g o n c j a b p q) (m1_ld4 g o n c j a b p q) dp
          have HST := hF.store (ok_ld4 g o n c j a b p q) (t1_ld4 g o n c j a b p q) (m1_ld4 g o n c j a b p q) rfl dp hL
          simp only [t1_ld4, hL, Bool.false_eq_true, and_false, if_false] at k4
          have s0 := k4 0 _ rfl
          have sc0 := s0.1; have sf0 := s0.2; clear s0
          have s1 := k4 1 _ rfl
          have sc1 := s1.1; have sf1 := s1.2; clear s1
          simp only [RG.setN, t1_ld4, Nat.zero_add] at HST ep
          simp only [e10, ep]
          clear hF k4 k2 k3 dp
          go_simp
          refine ⟨_, ?_, _, HST⟩
          simp [e10, ep]
        | jj + 15, hop => simp at hop
      · rintro LL a' WW hall ⟨uu, bb, rfl, hF⟩
        clear HRG0
        have e0 : uu 0 = .slice (some ⟨g, o, none⟩) n c := hF.val 0 rfl (hall 0 (by simp))
        have e1 : uu 1 = .int .i64 ((j : Int) + 1) := hF.val 1 rfl (hall 1 (by simp))
        have e2 : uu 2 = .int .i64 (j : Int) := hF.val 2 rfl (hall 2 (by simp))
        have e3 : uu 3 = .pointer (some ⟨g, o + j * 2, none⟩) := hF.val 3 rfl (hall 3 (by simp))
        have e4 : uu 4 = .agg #[.int .i64 a, .int .i64 b] := hF.val 4 rfl (hall 4 (by simp))
        have e5 : uu 5 = .agg #[.int .i64 a, .int .i64 b] := hF.val 5 rfl (hall 5 (by simp))
        have e6 : uu 6 = .slice (some ⟨g, o, none⟩) n c := hF.val 6 rfl (hall 6 (by simp))
        have e7 : uu 7 = .int .i64 ((j : Int) + 1) := hF.val 7 rfl (hall 7 (by simp))
        have e8 : uu 8 = .pointer (some ⟨g, o + (j + 1) * 2, none⟩) := hF.val 8 rfl (hall 8 (by simp))
        have e9 : uu 9 = .agg #[.int .i64 p, .int .i64 q] := hF.val 9 rfl (hall 9 (by simp))
        have e10 : uu 10 = .agg #[.int .i64 p, .int .i64 q] := hF.val 10 rfl (hall 10 (by simp))
        obtain ⟨ep0, lo0, hi0, q0, _⟩ := hF.box (t0_ld4 g o n c j a b p q) (m0_ld4 g o n c j a b p q) (hall 11 (by simp))
        simp only [t0_ld4, show LL 13 = true from hall 13 (by simp), and_self, if_true] at q0
        simp only [t0_ld4] at ep0 lo0 hi0
        have bc00 := (q0 0 _ rfl).1
        have bc01 := (q0 1 _ rfl).1
        clear q0
        obtain ⟨ep1, lo1, hi1, q1, _⟩ := hF.box (t1_ld4 g o n c j a b p q) (m1_ld4 g o n c j a b p q) (hall 12 (by simp))
        simp only [t1_ld4, show LL 14 = true from hall 14 (by simp), and_self, if_true] at q1
        simp only [t1_ld4] at ep1 lo1 hi1
        have bc10 := (q1 0 _ rfl).1
        have bc11 := (q1 1 _ rfl).1
        clear q1
        have ne01 : bb 11 ≠ bb 12 := hF.sep (t0_ld4 g o n c j a b p q) (m0_ld4 g o n c j a b p q) (t1_ld4 g o n c j a b p q) (m1_ld4 g o n c j a b p q) (by simp [t0_ld4, t1_ld4]) (hall 11 (by simp)) (hall 12 (by simp))
        have HBL := Lib.hid hF.below
        clear hF hall
        simp only [Act.put, List.setIfInBounds_toArray, List.set_cons_succ, List.set_cons_zero]
        simp only [e0, e1, e2, e3, e4, e5, e6, e7, e8, e9, e10, ep0, ep1]
        clear e0 e1 e2 e3 e4 e5 e6 e7 e8 e9 e10 ep0 ep1
        generalize bb 11 = b0 at *
        generalize bb 12 = b1 at *
        have HBW := Lib.hid (HB.out.trans (HBL.out.mono HB.out.size))
        clear HBL lo0 lo1 hi0 hi1 ne01
        by_cases e1 : p = a
        · have t1 : (p == a) = true := by rw [e1]; simp
          by_cases e2 : q = b
          · have t2 : (q == b) = true := by rw [e2]; simp
            have HT := Lib.hid (HN.out j hlt (by rw [HTD.out, e1, e2]; simp [tdP]))
            clear HTD e1 e2
            go_wp2_with fail
            go_ret
            exact ⟨by rw [HT.out]; rfl, HBW.out⟩
          · have t2 : (q == b) = false := beq_eq_false_iff_ne.2 e2
            have i5 : ¬ a < p := by omega
            by_cases e3 : q < b
            · have HT := Lib.hid (HN.out j hlt (by rw [HTD.out]; simp [tdP, e3]))
              clear HTD e1 e2
              go_wp2_with fail
              go_ret
              exact ⟨by rw [HT.out]; rfl, HBW.out⟩
            · have HT1 : Hid (tdC xs (j + 1) j = true) := Lib.hid (by rw [HTD.out]; unfold tdP; rw [decide_eq_false i5, decide_eq_false e3, beq_eq_false_iff_ne.2 (fun h : b = q => e2 h.symm)]; simp)
              clear HTD e1 e2
              go_wp2_with fail
              go_roundw
              case rel => exact ⟨j + 1, by omega, by go_num, fun r hr => by
                rcases Nat.lt_or_ge r j with h | h
                · exact HALL.out r h
                · obtain rfl : r = j := by omega
                  exact HT1.out, HBW.out⟩
              case measure => first | (simp [intOf]; done) | (simp [intOf]; omega)
        · have t1 : (p == a) = false := beq_eq_false_iff_ne.2 e1
          by_cases e3 : a < p
          · have HT := Lib.hid (HN.out j hlt (by rw [HTD.out]; simp [tdP, e3]))
            clear HTD e1
            go_wp2_with fail
            go_ret
            exact ⟨by rw [HT.out]; rfl, HBW.out⟩
          · by_cases e4 : q < b
            · have HT := Lib.hid (HN.out j hlt (by rw [HTD.out]; simp [tdP, e4]))
              clear HTD e1
              go_wp2_with fail
              go_ret
              exact ⟨by rw [HT.out]; rfl, HBW.out⟩
            · have HT1 : Hid (tdC xs (j + 1) j = true) := Lib.hid (by rw [HTD.out]; unfold tdP; rw [decide_eq_false e3, decide_eq_false e4, beq_eq_false_iff_ne.2 (fun h : a = p => e1 h.symm)]; simp)
              clear HTD e1
              go_wp2_with fail
              go_roundw
              case rel => exact ⟨j + 1, by omega, by go_num, fun r hr => by
                rcases Nat.lt_or_ge r j with h | h
                · exact HALL.out r h
                · obtain rfl : r = j := by omega
                  exact HT1.out, HBW.out⟩
              case measure => first | (simp [intOf]; done) | (simp [intOf]; omega)
    · have HT := Lib.hid (HY.out fun k hk => hall k (by omega))
      have HB := Lib.hid hb
      have i1 : ¬ (j : Int) + 1 < (n : Int) := by omega
      clear hall hb
      go_wp2_with fail
      go_ret
      exact ⟨by rw [HT.out]; rfl, HB.out⟩
set_option maxRecDepth 100000 in
set_option maxHeartbeats 2000000 in
theorem countApartI_ret (v1 v2 : Value) (n m : Nat) (xs ys : List Int) (w : World) (h1 : RCels w v1 n xs) (h2 : RCels w v2 m ys) (hn : n ≤ 1048576) (hm : m ≤ 1048576) :
    Calls Try.prog 31 #[v1, v2] w (Ret w (.tuple #[.int .i64 (cpV n xs m ys), .bool (askC n xs m ys)])) := by
  have HW := Lib.hid (waysMatrixI_ret v1 v2 n m xs ys w h1 h2 hn hm)
  have hH1 := Lib.hid h1
  have hH2 := Lib.hid h2
  obtain ⟨A1, p1, rfl⟩ := h1.shape
  obtain ⟨A2, p2, rfl⟩ := h2.shape
  clear h1 h2
  unfold cpV askC
  rcases Bool.eq_false_or_eq_true (gdB n xs m ys) with a1 | a1
  case inr =>
    rw [a1] at HW ⊢
    simp only [Bool.false_and, Bool.false_eq_true, if_false]
    generalize wyT n xs m ys = T at *
    clear a1
    go_enter Try.func31, Try.ntmps31
    go_wp2_with fail
    refine HW.out.mono ?_
    rintro e w1 ⟨u, vs, rfl, ht, hb1⟩
    obtain ⟨A3, c3, rfl⟩ := ht.out.shape
    clear ht
    go_wp2_with fail
    go_ret2
    exact ⟨rfl, hb1⟩
  obtain ⟨hmn, h4, hgx, hgy⟩ := gdB_of a1
  have h0 : 1 ≤ n := by
    unfold gdB at a1
    rw [Bool.and_eq_true, Bool.and_eq_true] at a1
    have := inBd_if6 a1.1.1
    omega
  have e1 : wyT n xs m ys = wmT xs ys m n := by unfold wyT; rw [if_pos a1]
  have HL1 : Hid (∀ w', Below w.heap.size w w' → Calls Try.prog 57 #[.slice A1 n p1] w' (Ret w' (.bool (tdB n xs)))) := Lib.hid fun w' hb => leadNW_any _ n xs w' (hH1.out.below hb) h0 h4
  have HL2 : Hid (∀ w', Below w.heap.size w w' → Calls Try.prog 57 #[.slice A2 m p2] w' (Ret w' (.bool (tdB m ys)))) := Lib.hid fun w' hb => leadNW_any _ m ys w' (hH2.out.below hb) (by omega) (by omega)
  have hwl := wmT_length xs ys m n
  have hwg := fun k => wmR_get xs ys m n k
  have HD : Hid (∀ u w', MRows w' u (wmT xs ys m n) → Calls Try.prog 58 #[u] w' (Ret w' (.tuple #[.int .i64 (dtmV (wmT xs ys m n)), .bool (dtmOk (wmT xs ys m n))]))) := Lib.hid fun u w' hm => determinantI_ret u _ w' hm (fun k hk => Nat.le_trans (hwg k) (by omega)) (by rw [hwl]; omega)
  have e2 : dtmV (wmT xs ys m n) = if smT (wmT xs ys m n) = true then detF n (wmT xs ys m n) else 0 := by unfold dtmV; rw [hwl]
  have e3 : dtmOk (wmT xs ys m n) = smT (wmT xs ys m n) := rfl
  rw [a1, e1] at HW
  rw [e2, e3] at HD
  rw [a1]
  have HWL := Lib.hid hwl
  clear hgx hgy a1 e1 e2 e3 hwg hwl hmn
  generalize wmT xs ys m n = T at *
  generalize detF n T = D at *
  generalize smT T = SM at *
  rcases Bool.eq_false_or_eq_true (tdB n xs) with a2 | a2
  case inr =>
    rw [a2] at HL1 ⊢
    simp only [Bool.and_false, Bool.false_and, Bool.false_eq_true, if_false]
    clear a2
    go_enter Try.func31, Try.ntmps31
    go_wp2_with fail
    refine HW.out.mono ?_
    rintro e w1 ⟨u, vs, rfl, ht, hb1⟩
    obtain ⟨A3, c3, rfl⟩ := ht.out.shape
    have HB1 := Lib.hid hb1
    clear ht hb1
    go_wp2_with fail
    refine (HL1.out _ HB1.out).mono ?_
    rintro e w2 ⟨rfl, hb2⟩
    have HB2 := Lib.hid (HB1.out.trans (hb2.mono HB1.out.size))
    clear hb2
    go_wp2_with fail
    go_ret2
    exact ⟨rfl, HB2.out⟩
  rcases Bool.eq_false_or_eq_true (tdB m ys) with a3 | a3
  case inr =>
    rw [a2] at HL1 ⊢
    rw [a3] at HL2 ⊢
    simp only [Bool.and_false, Bool.false_and, Bool.false_eq_true, if_false]
    clear a2 a3
    go_enter Try.func31, Try.ntmps31
    go_wp2_with fail
    refine HW.out.mono ?_
    rintro e w1 ⟨u, vs, rfl, ht, hb1⟩
    obtain ⟨A3, c3, rfl⟩ := ht.out.shape
    have HB1 := Lib.hid hb1
    clear ht hb1
    go_wp2_with fail
    refine (HL1.out _ HB1.out).mono ?_
    rintro e w2 ⟨rfl, hb2⟩
    have HB2 := Lib.hid (HB1.out.trans (hb2.mono HB1.out.size))
    clear hb2
    go_wp2_with fail
    refine (HL2.out _ HB2.out).mono ?_
    rintro e w3 ⟨rfl, hb3⟩
    have HB3 := Lib.hid (HB2.out.trans (hb3.mono HB2.out.size))
    clear hb3
    go_wp2_with fail
    go_ret2
    exact ⟨rfl, HB3.out⟩
  rw [a2] at HL1 ⊢
  rw [a3] at HL2 ⊢
  simp only [Bool.and_true, Bool.true_and]
  generalize (if SM = true then D else 0) = DV at *
  clear a2 a3
  go_enter Try.func31, Try.ntmps31
  go_wp2_with fail
  refine HW.out.mono ?_
  rintro e w1 ⟨u, vs, rfl, ht, hb1⟩
  obtain ⟨A3, c3, rfl⟩ := ht.out.shape
  have HB1 := Lib.hid hb1
  have HT1 := Lib.hid ht
  clear ht hb1
  go_wp2_with fail
  refine (HL1.out _ HB1.out).mono ?_
  rintro e w2 ⟨rfl, hb2⟩
  have HB2 := Lib.hid (HB1.out.trans (hb2.mono HB1.out.size))
  have HT2 := Lib.hid (HT1.out.below hb2)
  clear hb2
  go_wp2_with fail
  refine (HL2.out _ HB2.out).mono ?_
  rintro e w3 ⟨rfl, hb3⟩
  have HB3 := Lib.hid (HB2.out.trans (hb3.mono HB2.out.size))
  have HT3 := Lib.hid (HT2.out.below hb3)
  clear hb3
  go_wp2_with fail
  refine (HD.out _ _ HT3.out.mrows).mono ?_
  rintro e w4 ⟨rfl, hb4⟩
  have HB4 := Lib.hid (HB3.out.trans (hb4.mono HB3.out.size))
  clear hb4
  go_wp2_with fail
  go_ret2
  exact ⟨rfl, HB4.out⟩
end Go.Proofs.Ytmfcknlpbliehab
