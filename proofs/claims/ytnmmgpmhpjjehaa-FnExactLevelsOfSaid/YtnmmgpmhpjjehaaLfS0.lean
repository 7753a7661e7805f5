/- The search of LevelsOf, told by what has been tried. -/
import Derived.Test.YtnmmgpmhpjjehaaLfMath
import Derived.Test.YtnmmgpmhpjjehaaLvBox
import Derived.Test.YtnmmgpmhpjjehaaRot
namespace Go.Proofs.Ytnmmgpmhpjjehaa
open Go.RowKit
set_option linter.unusedVariables false
theorem frozen_grownI {w w' : World} {row : Option Nat} (h : w.grownBy w' row) {b : Nat} (hb : b < w.heap.size) (hne : some b ≠ row) (o : Nat) : w'.frozen? ⟨b, o, none⟩ = w.frozen? ⟨b, o, none⟩ := by
  unfold World.frozen?
  rw [h.block b hb hne]
def LfFound (p : Nat → Bool) (n : Nat) (lo y : Int) (b : Bool) : Prop := (b = true ∧ ∃ j : Nat, ffG p n 0 = some j ∧ y = lo + (j : Int)) ∨ (b = false ∧ ffG p n 0 = none)
def LfTry (p : Nat → Bool) (n k : Nat) (lo y : Int) (b : Bool) : Prop := (b = true ∧ ∃ j : Nat, k = j + 1 ∧ ffG p n 0 = some j ∧ y = lo + (j : Int)) ∨ (b = false ∧ ffG p (n - k) k = ffG p n 0)
theorem LfTry.yes {p : Nat → Bool} {n k : Nat} {lo y : Int} (h : LfTry p n k lo y true) : LfFound p n lo y true := by
  rcases h with ⟨_, j, _, h1, h2⟩ | ⟨h, _⟩
  · exact .inl ⟨rfl, j, h1, h2⟩
  · cases h
theorem LfTry.no {p : Nat → Bool} {n k : Nat} {lo y : Int} (h : LfTry p n k lo y false) (hk : n ≤ k) : LfFound p n lo y false := by
  rcases h with ⟨h, _⟩ | ⟨_, h⟩
  · cases h
  · rw [show n - k = 0 by omega] at h
    exact .inr ⟨rfl, h.symm⟩
theorem LfTry.next {p : Nat → Bool} {n k : Nat} {lo y : Int} (h : LfTry p n k lo y false) (hk : k < n) : LfTry p n (k + 1) lo (lo + (k : Int)) (p k) := by
  rcases h with ⟨h, _⟩ | ⟨_, h⟩
  · cases h
  · rw [show n - k = (n - (k + 1)) + 1 by omega, show ffG p ((n - (k + 1)) + 1) k = if p k = true then some k else ffG p (n - (k + 1)) (k + 1) from rfl] at h
    by_cases c : p k = true
    · rw [if_pos c] at h
      rw [c]
      exact .inl ⟨rfl, k, rfl, h.symm, rfl⟩
    · rw [if_neg c] at h
      rw [Bool.not_eq_true] at c
      rw [c]
      exact .inr ⟨rfl, h⟩
end Go.Proofs.Ytnmmgpmhpjjehaa
