/- Maps from heights to sums: words for the walks of moveTo and momentsBy. -/
import Derived.Test.YtnmmgpmhpjjehaaGmMath
import Derived.Test.YtnmmgpmhpjjehaaKindI
import Derived.Test.YtnmmgpmhpjjehaaAkMath
import Derived.Maps.RangeWalk
import Derived.Maps.OwnSet
namespace Go.Proofs.Ytnmmgpmhpjjehaa
open Go.RowKit Go.Maps
set_option linter.unusedVariables false
theorem gmLaw : Keyed Try.prog 3 := int_keyed Try.underlying3
theorem gmZero (w : World) : (zeroValue 3).run Try.prog w = .ok (.int .i64 0) w := by kernel_rfl
abbrev kI (t : Int) : Lit := .int .i64 t
def OM (w : World) (b n : Nat) (D : DataW Unit) : Prop := w.ownsMap Try.prog 3 (plainElem (H := Unit) Try.prog 3) b n D
def RG (w : World) (b r n : Nat) (D : DataW Unit) (left : Lit → Bool) (cnt : Nat) : Prop := w.ranges Try.prog 3 (plainElem (H := Unit) Try.prog 3) b r n D left cnt
theorem kI_same (a b : Int) : (kI a).sameKey (kI b) = decide (a = b) := by simp [Lit.sameKey]
theorem kI_ne {a b : Int} (h : a ≠ b) : kI a ≠ kI b := fun e => h (by injection e)
def leftN (l : Lit → Bool) (t : Nat) : Bool := l (kI (t : Int))
theorem leftN_strk (l : Lit → Bool) (h : Nat) : leftN (fun z => l z && !z.sameKey (kI (h : Int))) = strk (leftN l) h := by
  funext t
  unfold leftN strk
  show (l (kI (t : Int)) && !(kI (t : Int)).sameKey (kI (h : Int))) = _
  rw [kI_same]
  by_cases e : t = h
  · subst e; simp
  · have : ¬ ((t : Int) = (h : Int)) := by omega
    simp [e, this]
/-- nothing has turned but two blocks -/
structure TwoM (b b2 : Nat) (w w' : World) : Prop where
  os : w'.os = w.os
  tape : w'.tape = w.tape
  output : w'.output = w.output
  size : w.heap.size ≤ w'.heap.size
  block : ∀ k, k < w.heap.size → k ≠ b → k ≠ b2 → w'.heap[k]? = w.heap[k]?
theorem TwoM.refl (b b2 : Nat) (w : World) : TwoM b b2 w w := ⟨rfl, rfl, rfl, Nat.le_refl _, fun _ _ _ _ => rfl⟩
theorem TwoM.trans {b b2 : Nat} {x y z : World} (h : TwoM b b2 x y) (k : TwoM b b2 y z) : TwoM b b2 x z :=
  ⟨k.os.trans h.os, k.tape.trans h.tape, k.output.trans h.output, Nat.le_trans h.size k.size, fun i hi h1 h2 => (k.block i (Nat.lt_of_lt_of_le hi h.size) h1 h2).trans (h.block i hi h1 h2)⟩
theorem TwoM.grown {b b2 : Nat} {x y z : World} {row : Option Nat} (h : TwoM b b2 x y) (k : y.grownBy z row) (hr : ∀ j, row = some j → j = b ∨ j = b2 ∨ x.heap.size ≤ j) : TwoM b b2 x z :=
  ⟨k.os.trans h.os, k.tape.trans h.tape, k.output.trans h.output, Nat.le_trans h.size k.size, fun i hi h1 h2 => (k.block i (Nat.lt_of_lt_of_le hi h.size) (fun e => by
    rcases hr i e.symm with e1 | e1 | e1
    · exact h1 e1
    · exact h2 e1
    · omega)).trans (h.block i hi h1 h2)⟩
theorem grown_ofB {w w' : World} (h : Below w.heap.size w w') : w.grownBy w' none := ⟨h.os, h.tape, h.output, h.size, fun i hi _ => h.block i hi⟩
theorem TwoM.below {b b2 B : Nat} {w w' : World} (h : TwoM b b2 w w') (h1 : B ≤ b) (h2 : B ≤ b2) (h3 : B ≤ w.heap.size) : Below B w w' :=
  ⟨h.os, h.tape, h.output, h.size, fun k hk => h.block k (by omega) (by omega) (by omega)⟩
theorem TwoM.swap {b b2 : Nat} {w w' : World} (h : TwoM b b2 w w') : TwoM b2 b w w' := ⟨h.os, h.tape, h.output, h.size, fun k hk h1 h2 => h.block k hk h2 h1⟩
/-- the number at a key, 0 where there is none -/
def At0 (D : DataW Unit) (t : Int) (x : Int) : Prop := D.atKey (kI t) (.lit (kI 0)) = .lit (kI x)
def KeysTo (D : DataW Unit) (k : Nat) : Prop := ∀ z, Maps.has D z = true → ∃ h : Nat, h ≤ k ∧ z = kI (h : Int)
structure MapIs (D : DataW Unit) (k : Nat) (g : Nat → Int) : Prop where
  val : ∀ t : Nat, At0 D (t : Int) (g t)
  keys : KeysTo D k
theorem at0_inj {D : DataW Unit} {t x y : Int} (h : At0 D t x) (k : D.atKey (kI t) (.lit (kI 0)) = .lit (kI y)) : y = x := by
  unfold At0 at h
  rw [k] at h
  injection h with h
  injection h
theorem at0_none {D : DataW Unit} (h : ∀ z, Maps.has D z = false) (t : Int) : At0 D t 0 := atKey_of_not_has (h _) _
theorem at0_put_same {D : DataW Unit} (hD : IsMap D) (t x : Int) : At0 (D.put (kI t) (.lit (kI x))) t x := atKey_put_same hD (show WideAt.IsKeyLit (kI t) from trivial) _ _
theorem at0_put_other {D : DataW Unit} {s t x y : Int} (h : s ≠ t) (k : At0 D t y) : At0 (D.put (kI s) (.lit (kI x))) t y := by
  unfold At0
  rw [atKey_put_other (kI_ne (fun e => h e.symm))]
  exact k
theorem keys_put {D : DataW Unit} {k : Nat} (hD : IsMap D) (h : KeysTo D k) (q : Nat) (hq : q ≤ k) (d : DataW Unit) : KeysTo (D.put (kI (q : Int)) d) k := fun z hz => by
  by_cases e : z = kI (q : Int)
  · exact ⟨q, hq, e⟩
  · rw [has_put_other e] at hz
    exact h z hz
/-! ### the three kinds of steps -/
def stg (u f d : Nat → Int) (k : Nat) (l : Nat → Bool) (h j t : Nat) : Int :=
  gmP u f d k (if 1 ≤ j then strk l h else l) (if 2 ≤ j then strk l h else l) (if 3 ≤ j then strk l h else l) t
def wtJ (u f d : Nat → Int) (j h : Nat) : Int := if j = 0 then d h else if j = 1 then f h else u h
theorem stg_none (u f d : Nat → Int) (k : Nat) (l : Nat → Bool) (h j : Nat) (hl : l h = true) (hj : j < 3) (hz : h + j = 0 ∨ wtJ u f d j h = 0) (t : Nat) : stg u f d k l h (j + 1) t = stg u f d k l h j t := by
  unfold stg
  unfold wtJ at hz
  match j, hj with
  | 0, _ =>
    simp only [Nat.zero_add, Nat.le_refl, if_true, show ¬ (2 ≤ 1) by omega, show ¬ (3 ≤ 1) by omega, show ¬ (1 ≤ 0) by omega, show ¬ (2 ≤ 0) by omega, show ¬ (3 ≤ 0) by omega, if_false]
    rcases hz with hz | hz
    · obtain rfl : h = 0 := by omega
      exact gmP_D0 ..
    · exact gmP_Dz _ _ _ _ _ _ _ _ (by simpa using hz) hl _
  | 1, _ =>
    simp only [show 1 ≤ 1 + 1 by omega, show 2 ≤ 1 + 1 by omega, show ¬ (3 ≤ 1 + 1) by omega, show 1 ≤ 1 by omega, show ¬ (2 ≤ 1) by omega, show ¬ (3 ≤ 1) by omega, if_true, if_false]
    refine gmP_Fz _ _ _ _ _ _ _ _ ?_ hl _
    rcases hz with hz | hz
    · omega
    · simpa using hz
  | 2, _ =>
    simp only [show 1 ≤ 2 + 1 by omega, show 2 ≤ 2 + 1 by omega, show 3 ≤ 2 + 1 by omega, show 1 ≤ 2 by omega, show 2 ≤ 2 by omega, show ¬ (3 ≤ 2) by omega, if_true, if_false]
    refine gmP_Uz _ _ _ _ _ _ _ _ ?_ hl _
    rcases hz with hz | hz
    · omega
    · simpa using hz
theorem stg_step (u f d : Nat → Int) (k : Nat) (l : Nat → Bool) (h j q : Nat) (hl : l h = true) (hj : j < 3) (hq : h + j = q + 1) (t : Nat) :
    stg u f d k l h (j + 1) t = if t = q then stg u f d k l h j t + gm u f d k h * wtJ u f d j h else stg u f d k l h j t := by
  unfold stg wtJ
  match j, hj with
  | 0, _ =>
    obtain rfl : h = q + 1 := by omega
    simp only [Nat.zero_add, Nat.le_refl, if_true, show ¬ (2 ≤ 1) by omega, show ¬ (3 ≤ 1) by omega, show ¬ (1 ≤ 0) by omega, show ¬ (2 ≤ 0) by omega, show ¬ (3 ≤ 0) by omega, if_false]
    exact gmP_D _ _ _ _ _ _ _ _ hl _
  | 1, _ =>
    obtain rfl : h = q := by omega
    simp only [show 1 ≤ 1 + 1 by omega, show 2 ≤ 1 + 1 by omega, show ¬ (3 ≤ 1 + 1) by omega, show 1 ≤ 1 by omega, show ¬ (2 ≤ 1) by omega, show ¬ (3 ≤ 1) by omega, show ¬ (1 = 0) by omega, if_true, if_false]
    exact gmP_F _ _ _ _ _ _ _ _ hl _
  | 2, _ =>
    obtain rfl : h + 1 = q := by omega
    simp only [show 1 ≤ 2 + 1 by omega, show 2 ≤ 2 + 1 by omega, show 3 ≤ 2 + 1 by omega, show 1 ≤ 2 by omega, show 2 ≤ 2 by omega, show ¬ (3 ≤ 2) by omega, show ¬ (2 = 0) by omega, show ¬ (2 = 1) by omega, if_true, if_false]
    exact gmP_U _ _ _ _ _ _ _ _ hl _
theorem stg_zero (u f d : Nat → Int) (k : Nat) (l : Nat → Bool) (h t : Nat) : stg u f d k l h 0 t = gmP u f d k l l l t := rfl
theorem stg_three (u f d : Nat → Int) (k : Nat) (l : Nat → Bool) (h t : Nat) : stg u f d k l h 3 t = gmP u f d k (strk l h) (strk l h) (strk l h) t := rfl
theorem stg_bd {u f d : Nat → Int} (hw : W9 u f d) {k : Nat} (hk : k ≤ 11) (l : Nat → Bool) (h j t : Nat) : -150094635296999121 ≤ stg u f d k l h j t ∧ stg u f d k l h j t ≤ 150094635296999121 := gmP_bd hw hk _ _ _ _
theorem wtJ_bd {u f d : Nat → Int} (hw : W9 u f d) (j h : Nat) : -9 ≤ wtJ u f d j h ∧ wtJ u f d j h ≤ 9 := by
  unfold wtJ
  split
  · exact hw.d h
  · split
    · exact hw.f h
    · exact hw.u h
/-- one kind of steps more: the next map behind the store -/
theorem map_step {u f d : Nat → Int} {k : Nat} {l : Nat → Bool} {h j q : Nat} {D2 : DataW Unit} (hl : l h = true) (hj : j < 3) (hq : h + j = q + 1) (hD : IsMap D2) (hv : MapIs D2 (k + 1) (stg u f d k l h j)) (hqk : q ≤ k + 1) {x : Int}
    (hx : x = stg u f d k l h j q + gm u f d k h * wtJ u f d j h) : MapIs (D2.put (kI (q : Int)) (.lit (kI x))) (k + 1) (stg u f d k l h (j + 1)) :=
  ⟨fun t => by
    rw [stg_step u f d k l h j q hl hj hq]
    by_cases e : t = q
    · subst e
      rw [if_pos rfl, ← hx]
      exact at0_put_same hD _ _
    · rw [if_neg e]
      exact at0_put_other (by omega) (hv.val t), keys_put hD hv.keys q hqk _⟩
theorem map_stay {u f d : Nat → Int} {k : Nat} {l : Nat → Bool} {h j : Nat} {D2 : DataW Unit} (hl : l h = true) (hj : j < 3) (hz : h + j = 0 ∨ wtJ u f d j h = 0) (hv : MapIs D2 (k + 1) (stg u f d k l h j)) : MapIs D2 (k + 1) (stg u f d k l h (j + 1)) :=
  ⟨fun t => by rw [stg_none u f d k l h j hl hj hz]; exact hv.val t, hv.keys⟩
/-- the round over the heights: what is still to come -/
structure MvL (u f d : Nat → Int) (k : Nat) (left : Lit → Bool) (D D2 : DataW Unit) : Prop where
  rd : ∀ t : Nat, left (kI (t : Int)) = true → At0 D (t : Int) (gm u f d k t)
  ks : ∀ z, Maps.has D z = true → left z = true
  lk : ∀ z, left z = true → ∃ h : Nat, h ≤ k ∧ z = kI (h : Int)
  two : MapIs D2 (k + 1) (gmP u f d k (leftN left) (leftN left) (leftN left))
theorem MvL.start {u f d : Nat → Int} {k : Nat} {D D2 : DataW Unit} (h : MapIs D k (gm u f d k)) (h2 : ∀ z, Maps.has D2 z = false) : MvL u f d k (Maps.has D) D D2 :=
  ⟨fun t _ => h.val t, fun _ hz => hz, h.keys, ⟨fun t => by
    rw [gmP_start]
    · exact at0_none h2 _
    · intro t ht
      have h1 := h.val t
      have h3 : At0 D (t : Int) 0 := atKey_of_not_has ht _
      exact (at0_inj h3 h1).symm ▸ rfl, fun z hz => by rw [h2 z] at hz; cases hz⟩⟩
theorem MvL.done {u f d : Nat → Int} {k : Nat} {left : Lit → Bool} {D D2 : DataW Unit} (h : MvL u f d k left D D2) (hl : ∀ z, left z = false) : (∀ z, Maps.has D z = false) ∧ MapIs D2 (k + 1) (gm u f d (k + 1)) := by
  refine ⟨fun z => ?_, fun t => ?_, h.two.keys⟩
  · cases e : Maps.has D z with
    | false => rfl
    | true =>
      have := h.ks z e
      rw [hl z] at this
      cases this
  · have := h.two.val t
    rwa [gmP_done u f d k (leftN left) (fun t => hl _)] at this
theorem MvL.next {u f d : Nat → Int} {k : Nat} {left : Lit → Bool} {D D2 D3 : DataW Unit} (h : MvL u f d k left D D2) (x : Nat) (h3 : MapIs D3 (k + 1) (stg u f d k (leftN left) x 3)) :
    MvL u f d k (fun z => left z && !z.sameKey (kI (x : Int))) (D.del (kI (x : Int))) D3 where
  rd := fun t ht => by
    rw [Bool.and_eq_true, Bool.not_eq_true', kI_same, decide_eq_false_iff_not] at ht
    unfold At0
    rw [atKey_del_other (kI_ne ht.2)]
    exact h.rd t ht.1
  ks := fun z hz => by
    by_cases e : z = kI (x : Int)
    · subst e
      rw [has_del_same] at hz
      cases hz
    · rw [has_del_other e] at hz
      rw [Bool.and_eq_true, Bool.not_eq_true']
      exact ⟨h.ks z hz, sameKey_ne e⟩
  lk := fun z hz => by
    rw [Bool.and_eq_true] at hz
    exact h.lk z hz.1
  two := by rw [leftN_strk]; exact h3
/-- laying an entry into a map's literal -/
theorem wpList_insert_own {H : Type} {P : Program} (w : World) {ops : Array Oper} {rest : List Oper} {o : Oper} {a : Act} {Q : Exit → Act → World → Prop}
    (hg : o.guard = none) (m x v : Operand) (t : TypeId) (hop : o.op = Op.insert t m x v)
    (k e : TypeId) (K : Keyed P k) (ht : P.underlying t = some (.map k e)) (R : Value → Option (DataW H × List MemPlace)) (b n : Nat) (D : DataW H)
    (hm : a.eval m = .map (some b)) (hown : w.ownsMap P k R b n D) (hn : n < maxLen) (key val : Value) (kl : Lit) (hx : a.eval x = key) (hv : a.eval v = val) (hkey : keyOf P k key = some kl)
    (d : DataW H) (ps : List MemPlace) (hval : R val = some (d, ps))
    (hK : ∀ w', w'.ownsMap P k R b (n + 1) (D.put kl d) → w.grownBy w' (some b) → wpList P ops Q rest (a.put o.dst undef) w') :
    wpList P ops Q (o :: rest) a w := by
  refine wpList_plain hg fun K' hK' => ?_
  obtain ⟨w', hrun, r1, r2⟩ := hown.update K ht hn hkey hval
  unfold Oper.wp
  simp [execOp, hop, hm, hx, hv, hrun, Result.andThen]
  exact hK' _ _ (hK w' r1 r2)
end Go.Proofs.Ytnmmgpmhpjjehaa
