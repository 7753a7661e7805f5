/- The model's kiHankel, HankelOf. -/
import Derived.Test.YtahnknbggacndaaDetS
import Derived.Test.YtahnknbggacndaaShS
import Derived.Test.YtahnknbggacndaaKmS
namespace Go.Proofs.Ytahnknbggacndaa
open Go.RowKit
set_option linter.unusedVariables false
theorem all_any (v : Value) (xs : List Int) (lo hi : Int) (w : World) (h : RInts w v xs) (hl : xs.length ≤ 1048576) :
    Calls Try.prog 117 #[v, .int .i64 lo, .int .i64 hi] w fun e w' => e = .returned (.bool (allB xs lo hi)) ∧ w = w' := l1All_any v xs lo hi w h hl
theorem allB_of {xs : List Int} {lo hi : Int} (h : allB xs lo hi = true) : ∀ k, k < xs.length → lo ≤ xs.getD k 0 ∧ xs.getD k 0 ≤ hi := fun k hk => by
  unfold allB inBd at h
  simp only [Bool.and_eq_true, decide_eq_true_eq, List.all_eq_true] at h
  rw [List.getD_eq_getElem?_getD, List.getElem?_eq_getElem hk]
  exact h _ (List.getElem_mem hk)
end Go.Proofs.Ytahnknbggacndaa
