/- A drawn region over reads and calls, one of which hands back a slice of its own: what its slots hold, told by what has been done. -/
import Derived.Test.YtahnknbggacndaaRegG
namespace Go.Proofs.Ytahnknbggacndaa
open Go.RowKit
set_option linter.unusedVariables false
structure RC (w0 : World) (E : Nat → Value) (isV : Nat → Bool) (rs : Nat → Bool) (f0 : Nat) (n : Nat) (Rw : World → Value → Prop) (L : Nat → Bool) (W : World) (u : Nat → Value) : Prop where
  below : Below w0.heap.size w0 W
  val : ∀ j, isV j = true → L j = true → u j = E j
  isF : rs f0 = true
  dep : ∀ r, rs r = true → L r = true → L f0 = true
  res : ∃ A c, (∀ r, rs r = true → L r = true → u r = .slice A n c) ∧ ((∃ r, rs r = true ∧ L r = true) → Rw W (.slice A n c))
namespace RC
variable {w0 W W' : World} {E : Nat → Value} {isV rs : Nat → Bool} {f0 n : Nat} {Rw : World → Value → Prop} {L : Nat → Bool} {u : Nat → Value}
theorem start (hf : rs f0 = true) (w : World) (u : Nat → Value) : RC w E isV rs f0 n Rw (fun _ => false) w.drew u :=
  ⟨(Below.refl _ _).drew, (fun j _ h => by cases h), hf, (fun r _ h => by cases h), none, 0, (fun r _ h => by cases h), (fun ⟨r, _, h⟩ => by cases h)⟩
theorem kept (hR : ∀ X X' v, Rw X v → Below X.heap.size X X' → Rw X' v) (h : RC w0 E isV rs f0 n Rw L W u) (hw : Below W.heap.size W W') : RC w0 E isV rs f0 n Rw L W' u := by
  obtain ⟨A, c, h1, h2⟩ := h.res
  exact ⟨h.below.trans (hw.mono h.below.size), h.val, h.isF, h.dep, A, c, h1, fun e => hR _ _ _ (h2 e) hw⟩
theorem setv (ok : ∀ j, isV j = true → rs j = false) (h : RC w0 E isV rs f0 n Rw L W u) (j : Nat) (hj : isV j = true) (v : Value) (hv : v = E j) : RC w0 E isV rs f0 n Rw (upd L j) W (upg u j v) := by
  obtain ⟨A, c, h1, h2⟩ := h.res
  have hne : ∀ r, rs r = true → r ≠ j := fun r hr e => by rw [e, ok j hj] at hr; cases hr
  refine ⟨h.below, fun k hk e => ?_, h.isF, fun r hr e => ?_, A, c, fun r hr e => ?_, fun ⟨r, hr, e⟩ => h2 ⟨r, hr, ?_⟩⟩
  · by_cases c : k = j
    · subst c; rw [upg_same]; exact hv
    · rw [upg_other c]; exact h.val k hk (by rwa [upd_other c] at e)
  · rw [upd_other (hne r hr)] at e
    rw [upd_other (hne f0 h.isF)]
    exact h.dep r hr e
  · rw [upd_other (hne r hr)] at e
    rw [upg_other (hne r hr)]
    exact h1 r hr e
  · rwa [upd_other (hne r hr)] at e
/-- the call -/
theorem setr (ok : ∀ j, isV j = true → rs j = false) (h : RC w0 E isV rs f0 n Rw L W u) (hL : L f0 = false) (A : Option Addr) (c : Nat) (hr : Rw W (.slice A n c)) : RC w0 E isV rs f0 n Rw (upd L f0) W (upg u f0 (.slice A n c)) := by
  obtain ⟨j, hjf⟩ : ∃ j, f0 = j := ⟨_, rfl⟩
  have hj : rs j = true := by rw [← hjf]; exact h.isF
  have hno : ∀ r, rs r = true → L r = false := fun r hr => by
    cases e : L r with
    | false => rfl
    | true => have := h.dep r hr e; rw [hL] at this; cases this
  subst hjf
  have hne : ∀ k, isV k = true → k ≠ f0 := fun k hk e => by have := ok k hk; rw [e, hj] at this; cases this
  refine ⟨h.below, fun k hk e => ?_, h.isF, fun r hr e => upd_same _ _, A, c, fun r hr e => ?_, fun _ => hr⟩
  · rw [upd_other (hne k hk)] at e
    rw [upg_other (hne k hk)]
    exact h.val k hk e
  · by_cases e2 : r = f0
    · subst e2; exact upg_same _ _ _
    · rw [upd_other e2, hno r hr] at e
      cases e
/-- a copy of what the call handed back -/
theorem setc (ok : ∀ j, isV j = true → rs j = false) (h : RC w0 E isV rs f0 n Rw L W u) (i j : Nat) (hi : rs i = true) (hL : L i = true) (hj : rs j = true) (v : Value) (hv : v = u i) : RC w0 E isV rs f0 n Rw (upd L j) W (upg u j v) := by
  obtain ⟨A, c, h1, h2⟩ := h.res
  have hne : ∀ k, isV k = true → k ≠ j := fun k hk e => by have := ok k hk; rw [e, hj] at this; cases this
  refine ⟨h.below, fun k hk e => ?_, h.isF, fun r hr e => ?_, A, c, fun r hr e => ?_, fun _ => h2 ⟨i, hi, hL⟩⟩
  · rw [upd_other (hne k hk)] at e
    rw [upg_other (hne k hk)]
    exact h.val k hk e
  · by_cases e3 : f0 = j
    · rw [e3]; exact upd_same _ _
    · rw [upd_other e3]; exact h.dep i hi hL
  · by_cases e2 : r = j
    · subst e2; rw [upg_same, hv]; exact h1 i hi hL
    · rw [upd_other e2] at e
      rw [upg_other e2]
      exact h1 r hr e
end RC
end Go.Proofs.Ytahnknbggacndaa
