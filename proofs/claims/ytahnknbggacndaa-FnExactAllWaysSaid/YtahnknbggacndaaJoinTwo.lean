/- joinSteps of two parts. -/
import Derived.Test.YtahnknbggacndaaJoinS
namespace Go.Proofs.Ytahnknbggacndaa
open Go.RowKit
set_option linter.unusedVariables false
theorem two_cat (x y : ByteArray) : strOf (catB [x, y]) = x ++ y := by
  apply ByteArray.ext
  apply Array.toList_inj.1
  simp [strOf, catB]
theorem join_two (x y : ByteArray) (hx : x.size ≤ 100) (hy : y.size ≤ 100) (w : World) :
    Calls Try.prog 89 #[.slice (some ⟨w.heap.size, 0, none⟩) 2 2] (w.alloc (.cells #[.string x, .string y] 9)) fun e w' => e = .returned (.string (x ++ y)) ∧ Below w.heap.size w w' := by
  have hr : SRow (w.alloc (.cells #[.string x, .string y] 9)) w.heap.size (.slice (some ⟨w.heap.size, 0, none⟩) 2 2) [x, y] :=
    SRow.of_own (World.ownsRow_lit w #[.string x, .string y] 2 (Nat.le_refl _) (by simp [maxLen]) rfl) rfl rfl
  refine (joinSteps_any [x, y] _ _ _ hr (by simp) (by intro z hz; simp at hz; rcases hz with rfl | rfl <;> omega)).mono fun e w' ⟨h1, h2⟩ => ⟨by rw [h1, two_cat], ((Below.refl _ _).alloc (Nat.le_refl _) _).trans (h2.mono (by simp))⟩

end Go.Proofs.Ytahnknbggacndaa
