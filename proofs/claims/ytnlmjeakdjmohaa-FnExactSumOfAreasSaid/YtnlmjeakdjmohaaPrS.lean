/- The model's reGood; rows of numbers for a number of pairs. -/
import Derived.Test.YtnlmjeakdjmohaaInB
import Derived.Test.YtnlmjeakdjmohaaBalMath
namespace Go.Proofs.Ytnlmjeakdjmohaa
open Go.RowKit
set_option linter.unusedVariables false
def prB (n : Int) : Bool := inB n 0 15
theorem prB_of {n : Int} (h : prB n = true) : ∃ m : Nat, n = m ∧ m ≤ 15 := by
  unfold prB inB at h
  rw [Bool.and_eq_true, decide_eq_true_eq, decide_eq_true_eq] at h
  exact ⟨n.toNat, by omega, by omega⟩
/-- a row of n + 1 numbers for n pairs -/
def prL (f : Nat → Nat → Int) (n : Int) : List Int := if prB n = true then fr (f n.toNat) (n.toNat + 1) else []
/-- a number for n pairs -/
def prZ (f : Nat → Int) (n : Int) : Int := if prB n = true then f n.toNat else 0
theorem prL_yes (f : Nat → Nat → Int) {m : Nat} (h : prB m = true) : prL f m = fr (f m) (m + 1) := by unfold prL; rw [if_pos h]; rfl
theorem prL_no (f : Nat → Nat → Int) {n : Int} (h : prB n = false) : prL f n = [] := by unfold prL; rw [h]; rfl
theorem prZ_yes (f : Nat → Int) {m : Nat} (h : prB m = true) : prZ f m = f m := by unfold prZ; rw [if_pos h]; rfl
theorem prZ_no (f : Nat → Int) {n : Int} (h : prB n = false) : prZ f n = 0 := by unfold prZ; rw [h]; rfl
theorem prL_len (f : Nat → Nat → Int) (n : Int) : (prL f n).length ≤ 1048577 := by
  unfold prL
  split
  · rename_i h
    obtain ⟨m, rfl, hm⟩ := prB_of h
    rw [fr_length]
    show m + 1 ≤ _
    omega
  · simp
theorem reGood_any (n : Int) (w : World) : Calls Try.prog 85 #[.int .i64 n] w fun e w' => e = .returned (.bool (prB n)) ∧ w = w' := by
  have HI := Lib.hid (in_any n 0 15)
  unfold prB
  go_enter Try.func85, Try.ntmps85
  go_wp2_with (go_at_call 125; refine (HI.out _).mono ?_; rintro e w' ⟨rfl, rfl⟩)
  go_ret
  exact ⟨rfl, rfl⟩
end Go.Proofs.Ytnlmjeakdjmohaa
