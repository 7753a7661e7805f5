/- Pack 29 of what FnExactAllPairsApart needs: JoinTwo, AnyInv. -/
import Derived.Test.YtnlmjeakdjmohaaKFnExactAllPairsApart28
import Derived.Orders
/- joinSteps of two parts. -/
namespace Go.Proofs.Ytnlmjeakdjmohaa
open Go.RowKit
set_option linter.unusedVariables false
theorem two_cat (x y : ByteArray) : strOf (catB [x, y]) = x ++ y := by
  apply ByteArray.ext
  apply Array.toList_inj.1
  simp [strOf, catB]
theorem join_two (x y : ByteArray) (hx : x.size ≤ 100) (hy : y.size ≤ 100) (w : World) :
    Calls Try.prog 147 #[.slice (some ⟨w.heap.size, 0, none⟩) 2 2] (w.alloc (.cells #[.string x, .string y] 9)) fun e w' => e = .returned (.string (x ++ y)) ∧ Below w.heap.size w w' := by
  have hr : SRow (w.alloc (.cells #[.string x, .string y] 9)) w.heap.size (.slice (some ⟨w.heap.size, 0, none⟩) 2 2) [x, y] :=
    SRow.of_own (World.ownsRow_lit w #[.string x, .string y] 2 (Nat.le_refl _) (by simp [maxLen]) rfl) rfl rfl
  refine (joinSteps_any [x, y] _ _ _ hr (by simp) (by intro z hz; simp at hz; rcases hz with rfl | rfl <;> omega)).mono fun e w' ⟨h1, h2⟩ => ⟨by rw [h1, two_cat], ((Below.refl _ _).alloc (Nat.le_refl _) _).trans (h2.mono (by simp))⟩

end Go.Proofs.Ytnlmjeakdjmohaa

/- A region that draws its order, told by what has been done: one case for each operation in the place of one walk for each order. -/
namespace Go.Proofs.Ytnlmjeakdjmohaa
open Go.RowKit
set_option linter.unusedVariables false
/-- one operation more has been done -/
def upd (L : Nat → Bool) (i : Nat) : Nat → Bool := fun j => if j = i then true else L j
theorem upd_same (L : Nat → Bool) (i : Nat) : upd L i i = true := by simp [upd]
theorem upd_other {L : Nat → Bool} {i j : Nat} (h : j ≠ i) : upd L i j = L j := by simp [upd, h]
theorem ready_mem {md : Region.Mode} {ops : Array Oper} {listed : Array Bool} {i : Nat} (h : i ∈ Region.ready md ops listed) :
    ∃ o, ops[i]? = some o ∧ listed.getD i true = false ∧ ∀ e ∈ o.after, Region.binds md e = true → listed.getD e.on false = true := by
  unfold Region.ready at h
  rw [List.mem_filter, Bool.and_eq_true] at h
  obtain ⟨h0, h1, h2⟩ := h
  cases ho : ops[i]? with
  | none => rw [ho] at h2; simp at h2
  | some o =>
    rw [ho] at h2
    simp only [Option.map_some, Option.getD_some] at h2
    refine ⟨o, rfl, by simpa using h1, fun e he hb => ?_⟩
    have := (Array.all_eq_true_iff_forall_mem.1 h2) e he
    rw [hb] at this
    simpa using this
theorem ready_of {md : Region.Mode} {ops : Array Oper} {listed : Array Bool} {i : Nat} {o : Oper} (hi : ops[i]? = some o) (h1 : listed.getD i true = false) (h2 : ∀ e ∈ o.after, listed.getD e.on false = true) : i ∈ Region.ready md ops listed := by
  unfold Region.ready
  rw [List.mem_filter, Bool.and_eq_true]
  have hlt : i < ops.size := by
    rcases Nat.lt_or_ge i ops.size with h | h
    · exact h
    · rw [Array.getElem?_eq_none h] at hi; cases hi
  refine ⟨List.mem_range.2 hlt, by rw [h1]; rfl, ?_⟩
  rw [hi]
  simp only [Option.map_some, Option.getD_some]
  refine Array.all_eq_true_iff_forall_mem.2 fun e he => ?_
  rw [h2 e he, Bool.or_true]
/-- each operation waits for earlier ones alone -/
def waitsB (ops : Array Oper) : Bool := (List.range ops.size).all fun i => ((ops[i]?).map fun o => o.after.all fun e => decide (e.on < i)).getD true
theorem waits_of {ops : Array Oper} (h : waitsB ops = true) {i : Nat} {o : Oper} (hi : ops[i]? = some o) : ∀ e ∈ o.after, e.on < i := fun e he => by
  unfold waitsB at h
  have hlt : i < ops.size := by
    rcases Nat.lt_or_ge i ops.size with h | h
    · exact h
    · rw [Array.getElem?_eq_none h] at hi; cases hi
  have := List.all_eq_true.1 h i (List.mem_range.2 hlt)
  rw [hi] at this
  simp only [Option.map_some, Option.getD_some] at this
  simpa using (Array.all_eq_true_iff_forall_mem.1 this) e he
theorem all_listed {md : Region.Mode} {ops : Array Oper} {listed : Array Bool} (hw : waitsB ops = true) (hs : listed.size = ops.size) (hr : Region.ready md ops listed = []) : ∀ i, i < ops.size → listed.getD i false = true := by
  intro i
  induction i using Nat.strongRecOn with
  | _ i ih =>
    intro hi
    refine Classical.byContradiction fun hn => ?_
    have ho : ops[i]? = some ops[i] := Array.getElem?_eq_getElem hi
    have h1 : listed.getD i true = false := by
      rw [Array.getD_eq_getD_getElem?, Array.getElem?_eq_getElem (by omega)] at hn ⊢
      simpa using hn
    have := ready_of (md := md) ho h1 (fun e he => ih e.on (waits_of hw ho e he) (by have := waits_of hw ho e he; omega))
    rw [hr] at this
    cases this
def unlisted (listed : Array Bool) : Nat := (listed.toList.filter (!·)).length
theorem unlisted_set {listed : Array Bool} {i : Nat} (h : listed.getD i true = false) : unlisted (listed.setIfInBounds i true) + 1 = unlisted listed := by
  have hi : i < listed.size := by
    rcases Nat.lt_or_ge i listed.size with h1 | h1
    · exact h1
    · rw [Array.getD_eq_getD_getElem?, Array.getElem?_eq_none h1] at h; simp at h
  have hv : listed[i] = false := by
    rw [Array.getD_eq_getD_getElem?, Array.getElem?_eq_getElem hi] at h
    simpa using h
  unfold unlisted
  rw [Array.toList_setIfInBounds]
  obtain ⟨l⟩ := listed
  simp only [List.size_toArray, List.getElem_toArray] at hi hv ⊢
  induction l generalizing i with
  | nil => simp at hi
  | cons x l ih =>
    cases i with
    | zero =>
      simp at hv
      subst hv
      simp
    | succ i =>
      simp at hi hv
      have := ih (i := i) (by simp [hi, hv]) hi hv
      cases x <;> simp at this ⊢ <;> omega
theorem wpAny_inv {P : Program} {ops : Array Oper} {md : Region.Mode} {Q : Exit → Act → World → Prop} (Inv : (Nat → Bool) → Act → World → Prop) (hw : waitsB ops = true)
    (hstep : ∀ i o, ops[i]? = some o → ∀ L a w, Inv L a w → L i = false → (∀ e ∈ o.after, Region.binds md e = true → L e.on = true) → wpOp P ops Q i (fun a' w' => Inv (upd L i) a' w') a w)
    (hdone : ∀ L a w, (∀ i, i < ops.size → L i = true) → Inv L a w → Q .normal a w) :
    ∀ (fuel : Nat) (listed : Array Bool) (L : Nat → Bool) (a : Act) (w : World), listed.size = ops.size → unlisted listed ≤ fuel → (∀ i, i < ops.size → L i = listed.getD i false) → Inv L a w → wpAny P md ops Q fuel listed a w := by
  have hfin : ∀ (listed : Array Bool) (L : Nat → Bool) (a : Act) (w : World), listed.size = ops.size → (∀ i, i < ops.size → L i = listed.getD i false) → Inv L a w → Region.ready md ops listed = [] → Q .normal a w := fun listed L a w hs hL hI hr =>
    hdone L a w (fun i hi => by rw [hL i hi]; exact all_listed hw hs hr i hi) hI
  intro fuel
  induction fuel with
  | zero =>
    intro listed L a w hs hu hL hI
    have hr : Region.ready md ops listed = [] := by
      refine List.eq_nil_iff_forall_not_mem.2 fun i hi => ?_
      obtain ⟨o, _, h1, _⟩ := ready_mem hi
      have := unlisted_set h1
      omega
    exact ⟨hr, hfin listed L a w hs hL hI hr⟩
  | succ fuel ih =>
    intro listed L a w hs hu hL hI
    refine ⟨hfin listed L a w hs hL hI, fun i hi => ?_⟩
    obtain ⟨o, ho, h1, h2⟩ := ready_mem hi
    have hlt : i < ops.size := by
      rcases Nat.lt_or_ge i ops.size with h | h
      · exact h
      · rw [Array.getElem?_eq_none h] at ho; cases ho
    have h1' : listed.getD i false = false := by
      rw [Array.getD_eq_getD_getElem?, Array.getElem?_eq_getElem (by omega)] at h1 ⊢
      simpa using h1
    have hu2 := unlisted_set h1
    refine wpOp_mono (fun a' w' h => ih (listed.setIfInBounds i true) (upd L i) a' w' (by simpa using hs) (by omega) (fun j hj => ?_) h) (hstep i o ho L a w hI (by rw [hL i hlt]; exact h1') (fun e he hb => ?_))
    · by_cases e : j = i
      · subst e
        rw [upd_same, Array.getD_eq_getD_getElem?, Array.getElem?_setIfInBounds_self_of_lt (by omega)]
        rfl
      · rw [upd_other e, hL j hj, Array.getD_eq_getD_getElem?, Array.getD_eq_getD_getElem?, Array.getElem?_setIfInBounds_ne (fun x => e x.symm)]
    · have hl := h2 e he hb
      rcases Nat.lt_or_ge e.on ops.size with h | h
      · rw [hL _ h]; exact hl
      · rw [Array.getD_eq_getD_getElem?, Array.getElem?_eq_none (by omega)] at hl
        simp at hl
theorem wp_region_inv {P : Program} {ops : Array Oper} {id : Nat} {Q : Exit → Act → World → Prop} {a : Act} {w : World} (Inv : (Nat → Bool) → Act → World → Prop) (hm : P.follows .mixedOrders = true) (hw : waitsB ops = true)
    (h0 : Inv (fun _ => false) a w.drew)
    (hstep : ∀ i o, ops[i]? = some o → ∀ L a w, Inv L a w → L i = false → (∀ e ∈ o.after, Region.binds .any e = true → L e.on = true) → wpOp P ops Q i (fun a' w' => Inv (upd L i) a' w') a w)
    (hdone : ∀ L a w, (∀ i, i < ops.size → L i = true) → Inv L a w → Q .normal a w) : (Code.region id ops true).wp P Q a w :=
  wp_region_any hm (wpAny_inv Inv hw hstep hdone ops.size (Array.replicate ops.size false) (fun _ => false) a w.drew (by simp) (by
    unfold unlisted
    simp) (fun i hi => by rw [Array.getD_eq_getD_getElem?, Array.getElem?_replicate, if_pos hi]; rfl) h0)
/-- the same, with what the slots hold told from the frame at the region's start -/
theorem wp_region_inv2 {P : Program} {ops : Array Oper} {id : Nat} {Q : Exit → Act → World → Prop} {a : Act} {w : World} (Inv : Act → (Nat → Bool) → Act → World → Prop) (hm : P.follows .mixedOrders = true) (hw : waitsB ops = true)
    (h0 : Inv a (fun _ => false) a w.drew)
    (hstep : ∀ i o, ops[i]? = some o → ∀ L a' w, Inv a L a' w → L i = false → (∀ e ∈ o.after, Region.binds .any e = true → L e.on = true) → wpOp P ops Q i (fun a'' w' => Inv a (upd L i) a'' w') a' w)
    (hdone : ∀ L a' w, (∀ i, i < ops.size → L i = true) → Inv a L a' w → Q .normal a' w) : (Code.region id ops true).wp P Q a w :=
  wp_region_inv (Inv a) hm hw h0 hstep hdone
theorem wpOp_run {P : Program} {ops : Array Oper} {Q : Exit → Act → World → Prop} {i : Nat} {K : Act → World → Prop} {a : Act} {w : World} {o : Oper} (hi : ops[i]? = some o) (hg : o.guard = none) (h : Oper.wp P o a w K Q) : wpOp P ops Q i K a w := by
  unfold wpOp
  rw [hi]
  simp only [Region.wanted, hg]
  exact .inl h
end Go.Proofs.Ytnlmjeakdjmohaa
