/- The program's IsChance, isPlay, isWithinPlay. -/
import Derived.Test.YtnlmjeakdjmohaaLowI
namespace Go.Proofs.Ytnlmjeakdjmohaa
open Go.RowKit
set_option linter.unusedVariables false
theorem within_lit (lo hi x : Int) (X : World) : Calls Try.prog 130 #[.int .i64 lo, .int .i64 hi, .slice (some ⟨X.heap.size, 0, none⟩) 1 1] (X.alloc (.cells #[.int .i64 x] 3)) fun e w' => e = .returned (.bool (inBd lo hi x)) ∧ Below X.heap.size X w' :=
  (within_one lo hi x X).mono fun e w' ⟨h1, h2⟩ => ⟨h1, h2 ▸ (Below.refl _ _).alloc (Nat.le_refl _) _⟩
theorem within_lit2 (lo hi x y : Int) (X : World) : Calls Try.prog 130 #[.int .i64 lo, .int .i64 hi, .slice (some ⟨X.heap.size, 0, none⟩) 2 2] (X.alloc (.cells #[.int .i64 x, .int .i64 y] 3)) fun e w' => e = .returned (.bool (inBd lo hi x && inBd lo hi y)) ∧ Below X.heap.size X w' :=
  (within_two lo hi x y X).mono fun e w' ⟨h1, h2⟩ => ⟨h1, h2 ▸ (Below.refl _ _).alloc (Nat.le_refl _) _⟩
theorem ruB_alt (n d : Int) : (inBd 1 6 d && (inBd 1 (d - 1) n && (numZ n d == n && denZ n d == d))) = ruB n d := by
  unfold ruB
  by_cases h : d = 1
  · have e1 : inBd 1 (d - 1) n = false := by unfold inBd; rw [Bool.and_eq_false_iff, decide_eq_false_iff_not, decide_eq_false_iff_not]; omega
    rw [e1, Bool.false_and, Bool.and_false, Bool.and_false, Bool.false_and]
  · have e1 : inBd 1 6 d = inBd 2 6 d := by
      unfold inBd
      rw [Bool.eq_iff_iff]
      simp only [Bool.and_eq_true, decide_eq_true_eq]
      omega
    rw [e1, Bool.and_assoc]
end Go.Proofs.Ytnlmjeakdjmohaa
