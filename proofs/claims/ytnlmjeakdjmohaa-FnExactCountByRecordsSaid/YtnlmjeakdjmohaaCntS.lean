/- The model's CountTouching, CountAbove, CountHighest, CountFirstPassage; miWalls. -/
import Derived.Test.YtnlmjeakdjmohaaToS
import Derived.Test.YtnlmjeakdjmohaaTchS
namespace Go.Proofs.Ytnlmjeakdjmohaa
open Go.RowKit
set_option linter.unusedVariables false
theorem cntOk_of {u d : Int} (h : cntOk u d = true) : 0 ≤ u ∧ 0 ≤ d ∧ u + d ≤ 40 := by
  unfold cntOk at h
  simp only [Bool.and_eq_true, decide_eq_true_eq] at h
  omega
theorem inB_of {a lo hi : Int} (h : inB a lo hi = true) : lo ≤ a ∧ a ≤ hi := by
  unfold inB at h
  simpa only [Bool.and_eq_true, decide_eq_true_eq] using h
/-! ### CountTouching -/
def ctoOk (a b h : Int) : Bool := cntOk a b && inB h (-40) 40
def ctoV (a b h : Int) : Int := if ctoOk a b h = true then tchZ (a + b) (a - b) h else 0
/-! ### CountHighest -/
def chiOk (a b h : Int) : Bool := cntOk a b && inB h 0 40
def chiV (a b h : Int) : Int := if chiOk a b h = true then tchZ (a + b) (a - b) h - tchZ (a + b) (a - b) (h + 1) else 0
/-! ### CountAbove -/
def cabOk (a b h : Int) : Bool := cntOk a b && inB h (-40) 0
def cabV (a b h : Int) : Int := if cabOk a b h = true then toZ (a + b) (a - b) - tchZ (a + b) (a - b) (h - 1) else 0
/-! ### walls -/
def walB (l h : Int) : Bool := inB l (-40) 0 && inB h 0 40
end Go.Proofs.Ytnlmjeakdjmohaa
