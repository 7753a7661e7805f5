/- Levels found again by their moments, a weight at a time. -/
import Derived.Test.YtnmmgpmhpjjehaaMoMath
import Derived.Test.YtnmmgpmhpjjehaaShMath
namespace Go.Proofs.Ytnmmgpmhpjjehaa
open Go.RowKit
set_option linter.unusedVariables false
/-- the first of r numbers from k on of which p holds -/
def ffG (p : Nat → Bool) : Nat → Nat → Option Nat
  | 0, _ => none
  | r + 1, k => if p k = true then some k else ffG p r (k + 1)
theorem ffG_lt {p : Nat → Bool} : ∀ r k a, ffG p r k = some a → k ≤ a ∧ a < k + r ∧ p a = true
  | 0, _, _, h => by cases h
  | r + 1, k, a, h => by
    unfold ffG at h
    by_cases c : p k = true
    · rw [if_pos c] at h
      injection h with h
      subst h
      exact ⟨Nat.le_refl _, by omega, c⟩
    · rw [if_neg c] at h
      have := ffG_lt r (k + 1) a h
      exact ⟨by omega, by omega, this.2.2⟩
/-- the moment of k of weights -/
def moM (fs ds : List Int) (k : Nat) : Int := mo fs.length (fun i => fs.getD i 0) (fun i => ds.getD i 0) k 0
def pF (ms fs ds : List Int) (j : Nat) : Bool := moM (fs ++ [-5 + (j : Int)]) (ds ++ [1]) (2 * fs.length + 1) == ms.getD (2 * fs.length + 1) 0
def pD (ms fs ds : List Int) (j : Nat) : Bool := moM (fs ++ [0]) (ds ++ [1 + (j : Int)] ++ [1]) (2 * ds.length + 2) == ms.getD (2 * ds.length + 2) 0
/-- one level more -/
def lfT (ms : List Int) (h : Nat) (fs ds : List Int) : Option (List Int × List Int) :=
  match ffG (pF ms fs ds) 11 0 with
  | none => none
  | some a => if 2 * h + 2 = ms.length then some (fs ++ [-5 + (a : Int)], ds ++ [1]) else
    match ffG (pD ms (fs ++ [-5 + (a : Int)]) ds) 5 0 with
    | none => none
    | some b => some (fs ++ [-5 + (a : Int)], ds ++ [1 + (b : Int)])
def lfS (ms : List Int) : Nat → Option (List Int × List Int)
  | 0 => some ([], [])
  | h + 1 => match lfS ms h with
    | none => none
    | some (fs, ds) => lfT ms h fs ds
theorem lfS_succ {ms : List Int} {h : Nat} {fs ds : List Int} (e : lfS ms h = some (fs, ds)) : lfS ms (h + 1) = lfT ms h fs ds := by
  show (match lfS ms h with | none => none | some (fs, ds) => lfT ms h fs ds) = _
  rw [e]
theorem lfS_none {ms : List Int} {h : Nat} (e : lfS ms h = none) : ∀ k, lfS ms (h + k) = none
  | 0 => e
  | k + 1 => by
    show (match lfS ms (h + k) with | none => none | some (fs, ds) => lfT ms (h + k) fs ds) = _
    rw [lfS_none e k]
theorem allB_snoc {xs : List Int} {lo hi x : Int} (h : allB xs lo hi = true) (hx : lo ≤ x ∧ x ≤ hi) : allB (xs ++ [x]) lo hi = true := by
  unfold allB at h ⊢
  rw [List.all_append, h]
  simp [inBd, hx.1, hx.2]
theorem lfS_ok {ms : List Int} : ∀ h fs ds, lfS ms h = some (fs, ds) → fs.length = h ∧ ds.length = h ∧ allB fs (-5) 5 = true ∧ allB ds 1 5 = true
  | 0, fs, ds, e => by
    injection e with e
    injection e with e1 e2
    subst e1 e2
    exact ⟨rfl, rfl, rfl, rfl⟩
  | h + 1, fs, ds, e => by
    cases e0 : lfS ms h with
    | none => rw [show lfS ms (h + 1) = none from lfS_none e0 1] at e; cases e
    | some q =>
      obtain ⟨fs0, ds0⟩ := q
      rw [lfS_succ e0] at e
      obtain ⟨i1, i2, i3, i4⟩ := lfS_ok h fs0 ds0 e0
      unfold lfT at e
      cases ea : ffG (pF ms fs0 ds0) 11 0 with
      | none => rw [ea] at e; cases e
      | some a =>
        rw [ea] at e
        have ha := ffG_lt _ _ _ ea
        by_cases c : 2 * h + 2 = ms.length
        · simp only [if_pos c] at e
          injection e with e
          injection e with e1 e2
          subst e1 e2
          exact ⟨by simp [i1], by simp [i2], allB_snoc i3 (by omega), allB_snoc i4 (by omega)⟩
        · simp only [if_neg c] at e
          cases eb : ffG (pD ms (fs0 ++ [-5 + (a : Int)]) ds0) 5 0 with
          | none => rw [eb] at e; cases e
          | some b =>
            rw [eb] at e
            have hb := ffG_lt _ _ _ eb
            injection e with e
            injection e with e1 e2
            subst e1 e2
            exact ⟨by simp [i1], by simp [i2], allB_snoc i3 (by omega), allB_snoc i4 (by omega)⟩
def lfR (ms : List Int) : Option (List Int × List Int) := lfS ms (ms.length / 2)
def lfOk (ms : List Int) : Bool := ((momB ms && !(ms.length % 2 == 1)) && (ms.getD 0 0 == 1)) && (lfR ms).isSome
def lfF (ms : List Int) : List Int := if lfOk ms = true then ((lfR ms).getD ([], [])).1 else []
def lfD (ms : List Int) : List Int := if lfOk ms = true then ((lfR ms).getD ([], [])).2 else []
theorem lf_no {ms : List Int} (h : lfOk ms = false) : lfF ms = [] ∧ lfD ms = [] := by
  unfold lfF lfD
  rw [h]
  exact ⟨rfl, rfl⟩
theorem lf_yes {ms fs ds : List Int} (h1 : ((momB ms && !(ms.length % 2 == 1)) && (ms.getD 0 0 == 1)) = true) (h2 : lfR ms = some (fs, ds)) : lfOk ms = true ∧ lfF ms = fs ∧ lfD ms = ds := by
  have : lfOk ms = true := by unfold lfOk; rw [h1, h2]; rfl
  unfold lfF lfD
  rw [this, h2]
  exact ⟨rfl, rfl, rfl⟩
theorem lf_none {ms : List Int} (h2 : lfR ms = none) : lfOk ms = false := by unfold lfOk; rw [h2]; simp
theorem lf_len (ms : List Int) : (lfF ms).length ≤ 1048576 ∧ (lfD ms).length ≤ 1048576 := by
  rcases Bool.eq_false_or_eq_true (lfOk ms) with h | h
  · have h2 := h
    unfold lfOk at h2
    simp only [Bool.and_eq_true] at h2
    have hm := momB_of h2.1.1.1
    cases e : lfR ms with
    | none => rw [e] at h2; simp at h2
    | some q =>
      obtain ⟨fs, ds⟩ := q
      have := lfS_ok _ _ _ e
      unfold lfF lfD
      rw [h, e]
      simp only [if_true, Option.getD_some]
      omega
  · rw [(lf_no h).1, (lf_no h).2]
    simp
end Go.Proofs.Ytnmmgpmhpjjehaa
