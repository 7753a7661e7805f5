/- FnExactIsLevels for every argument. -/
import Derived.Test.YtnmmgpmhpjjehaaLFnExactIsLevels
import Derived.Test.YtnmmgpmhpjjehaaLvI
namespace Go.Proofs.Ytnmmgpmhpjjehaa
open Go.RowKit
set_option linter.unusedVariables false
theorem wFnExactIsLevels (x : Value) (fs ds : List Int) (w : World) (h : RLev w x fs ds) :
    Calls Try.prog 9 #[x] w fun e w' => e = .returned (.bool true) ∧ Below w.heap.size w w' := by
  by_cases hl : fs.length + ds.length ≤ 1048576
  · exact wFnExactIsLevels_main x fs ds (lvB fs ds) (Lib.hid fun x w h => by
      obtain ⟨v, u, rfl, h1, h2⟩ := h
      have l1 : fs.length ≤ 1048576 := by omega
      have l2 : ds.length ≤ 1048576 := by omega
      exact specIsLevels_ret v u fs ds w h1 h2 l1 l2) (Lib.hid fun x w h => by
      obtain ⟨v, u, rfl, h1, h2⟩ := h
      have l1 : fs.length ≤ 1048576 := by omega
      have l2 : ds.length ≤ 1048576 := by omega
      exact isLevels_ret v u fs ds w h1 h2 l1 l2) w h hl
  · exact wFnExactIsLevels_big x fs ds w h hl
end Go.Proofs.Ytnmmgpmhpjjehaa
