/- FnExactMomentsOf for every argument. -/
import Derived.Test.YtnmmgpmhpjjehaaLFnExactMomentsOf
import Derived.Test.YtnmmgpmhpjjehaaMomI
namespace Go.Proofs.Ytnmmgpmhpjjehaa
open Go.RowKit
set_option linter.unusedVariables false
theorem wFnExactMomentsOf (x : Value) (fs ds : List Int) (a1 : Int) (w : World) (h : RLev w x fs ds) (hs1 : (Lit.int .i64 a1).wf = true) :
    Calls Try.prog 11 #[x, .int .i64 a1] w fun e w' => e = .returned (.bool true) ∧ Below w.heap.size w w' := by
  by_cases hl : fs.length + ds.length ≤ 1048576
  · exact wFnExactMomentsOf_main x fs ds a1 (momOk fs ds a1) (momV fs ds a1) (momV_len fs ds a1) (Lib.hid fun x w h => by
      obtain ⟨v, u, rfl, h1, h2⟩ := h
      have l1 : fs.length ≤ 1048576 := by omega
      have l2 : ds.length ≤ 1048576 := by omega
      exact specMomentsOf_ret v u fs ds a1 w h1 h2 l1 l2) (Lib.hid fun x w h => by
      obtain ⟨v, u, rfl, h1, h2⟩ := h
      have l1 : fs.length ≤ 1048576 := by omega
      have l2 : ds.length ≤ 1048576 := by omega
      exact momentsOf_ret v u fs ds a1 w h1 h2 l1 l2) w h hl
  · exact wFnExactMomentsOf_big x fs ds a1 w h hl
end Go.Proofs.Ytnmmgpmhpjjehaa
