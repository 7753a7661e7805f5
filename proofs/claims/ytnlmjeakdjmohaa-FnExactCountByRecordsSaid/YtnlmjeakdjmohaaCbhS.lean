/- The model's CountByHighest, CountBothTouched. -/
import Derived.Test.YtnlmjeakdjmohaaSumS
import Derived.Test.YtnlmjeakdjmohaaBalMath
namespace Go.Proofs.Ytnlmjeakdjmohaa
open Go.RowKit
set_option linter.unusedVariables false
def byH (n : Int) (h : Nat) : Int := toZ n h + toZ n ((h : Int) + 1)
def chOk (n : Int) : Bool := inB n 0 40
def chV (n : Int) : List Int := if chOk n = true then fr (byH n) (n + 1).toNat else []
theorem chV_len (n : Int) : (chV n).length ≤ 1048577 := by
  unfold chV
  split
  · rename_i h
    have := inB_of h
    rw [fr_length]
    omega
  · simp
end Go.Proofs.Ytnlmjeakdjmohaa
