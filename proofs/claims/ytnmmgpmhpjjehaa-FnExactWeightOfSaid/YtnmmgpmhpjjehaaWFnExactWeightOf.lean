/- FnExactWeightOf for every argument. -/
import Derived.Test.YtnmmgpmhpjjehaaLFnExactWeightOf
import Derived.Test.YtnmmgpmhpjjehaaWgI
namespace Go.Proofs.Ytnmmgpmhpjjehaa
open Go.RowKit
set_option linter.unusedVariables false
theorem wFnExactWeightOf (x : Value) (fs ds : List Int) (a1 : ByteArray) (w : World) (h : RLev w x fs ds) (hs1 : a1.size ≤ maxLen) :
    Calls Try.prog 10 #[x, .string a1] w fun e w' => e = .returned (.bool true) ∧ Below w.heap.size w w' := by
  by_cases hb : 1048576 < a1.size
  · obtain ⟨v, u, rfl, _, _⟩ := h
    exact wFnExactWeightOf_long v u a1 w hb hs1
  by_cases hl : fs.length + ds.length ≤ 1048576
  · exact wFnExactWeightOf_main x fs ds a1 (wgOk fs ds a1) (wgV fs ds a1) (Lib.hid fun x w h => by
      obtain ⟨v, u, rfl, h1, h2⟩ := h
      have l1 : fs.length ≤ 1048576 := by omega
      have l2 : ds.length ≤ 1048576 := by omega
      exact specWeightOf_ret v u fs ds a1 w h1 h2 l1 l2 hs1) (Lib.hid fun x w h => by
      obtain ⟨v, u, rfl, h1, h2⟩ := h
      have l1 : fs.length ≤ 1048576 := by omega
      have l2 : ds.length ≤ 1048576 := by omega
      exact weightOf_ret v u fs ds a1 w h1 h2 l1 l2 hs1) w h hl hb
  · exact wFnExactWeightOf_big x fs ds a1 w h hl hb
end Go.Proofs.Ytnmmgpmhpjjehaa
