/- FnExactWaysMatrix for every argument. -/
import Derived.Test.YtahnknbggacndaaLFnExactWaysMatrix
import Derived.Test.YtahnknbggacndaaWmI
import Derived.Test.YtahnknbggacndaaWyS
import Derived.Test.YtahnknbggacndaaRcIn
namespace Go.Proofs.Ytahnknbggacndaa
open Go.RowKit
set_option linter.unusedVariables false
theorem wyT_small (n : Nat) (xs : List Int) (m : Nat) (ys : List Int) : (wyT n xs m ys).length ≤ 1048576 ∧ (wyT n xs m ys).flatten.length ≤ 1048576 := by
  unfold wyT
  by_cases h : gdB n xs m ys = true
  · rw [if_pos h]
    obtain ⟨hmn, h4, _, _⟩ := gdB_of h
    rw [wmT_length]
    have key : ∀ k, (wmT xs ys m k).flatten.length = m * k := by
      intro k
      induction k with
      | zero => rfl
      | succ k ih => rw [wmT_succ, List.flatten_append, List.length_append, ih, List.flatten_cons, List.flatten_nil, List.append_nil, wmR_length, Nat.mul_succ]
    rw [key, hmn]
    have := Nat.mul_le_mul h4 h4
    omega
  · rw [if_neg h]
    simp
theorem wFnExactWaysMatrix (v1 : Value) (n : Nat) (xs : List Int) (v2 : Value) (m : Nat) (ys : List Int) (w : World) (h1 : RCels w v1 n xs) (h2 : RCels w v2 m ys) :
    Calls Try.prog 13 #[v1, v2] w fun e w' => e = .returned (.bool true) ∧ Below w.heap.size w w' :=
  wFnExactWaysMatrix_main v1 n xs v2 m ys w h1 h2 fun hn hm left2 hl2 left hl HZ1 HZ2 =>
    wFnExactWaysMatrix_core v1 n xs v2 m ys (gdB n xs m ys) (wyT n xs m ys) (wyT_small n xs m ys).1 (wyT_small n xs m ys).2
      (Lib.hid fun u1 u2 w a b => specWaysMatrix_ret u1 u2 n m xs ys w a b hn hm) (Lib.hid fun u1 u2 w a b => waysMatrixI_ret u1 u2 n m xs ys w a b hn hm) left2 hl2 left hl w h1 h2 hn hm HZ1 HZ2
end Go.Proofs.Ytahnknbggacndaa
