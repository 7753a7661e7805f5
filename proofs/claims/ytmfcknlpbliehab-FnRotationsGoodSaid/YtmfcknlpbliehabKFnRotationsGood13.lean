/- Pack 13 of what FnRotationsGood needs: RlS, Cnts. -/
import Derived.Test.YtmfcknlpbliehabKFnRotationsGood12
/- Literal rows for the draws, and the law's word for inputs that are too long. -/
namespace Go.Proofs.Ytmfcknlpbliehab
open Go.RowKit
set_option linter.unusedVariables false
theorem rowLit (w : World) (C : Array Value) (xs : List Int) (P : Int → Prop) (hC : C = (xs.map (Value.int .i64)).toArray) (hP : ∀ x ∈ xs, P x) : RowI (w.alloc (.cells C 3)) w.heap.size xs.length P := by
  subst hC
  refine ⟨by simp, fun j hj => ⟨xs.getD j 0, ?_, ?_⟩⟩
  · rw [List.getD_eq_getElem?_getD, List.getElem?_eq_getElem hj]
    exact hP _ (List.getElem_mem hj)
  · rw [List.getD_eq_getElem?_getD, List.getElem?_eq_getElem hj]
    simp [hj]
def Small (x : Int) : Prop := -1 ≤ x ∧ x ≤ 13
set_option maxHeartbeats 400000 in
theorem bigAny (A1 A2 : Option Addr) (l1 c1 l2 c2 : Nat) (w : World) (h1 : l1 ≤ maxLen) (h2 : l2 ≤ maxLen) :
    Calls Try.prog 5 #[.slice A1 l1 c1, .slice A2 l2 c2] w fun e w' => e = .returned (.bool (decide (1048576 < l1 + l2))) ∧ w = w' := by
  unfold maxLen at h1 h2
  by_cases hb : 1048576 < l1
  · have e : decide (1048576 < l1 + l2) = true := decide_eq_true (by omega)
    rw [e]
    go_enter Try.func5, Try.ntmps5
    go_wp2
    go_ret
    exact ⟨rfl, rfl⟩
  · have d1 : decide ((1048576 : Int) < (l1 : Int)) = false := decide_eq_false (by omega)
    by_cases hb2 : (1048576 : Int) - (l1 : Int) < (l2 : Int)
    · have e : decide (1048576 < l1 + l2) = true := decide_eq_true (by omega)
      rw [e]
      have d2 : decide ((1048576 : Int) - (l1 : Int) < (l2 : Int)) = true := decide_eq_true hb2
      go_enter Try.func5, Try.ntmps5
      go_wp2
      go_ret
      exact ⟨rfl, rfl⟩
    · have e : decide (1048576 < l1 + l2) = false := decide_eq_false (by omega)
      rw [e]
      have d2 : decide ((1048576 : Int) - (l1 : Int) < (l2 : Int)) = false := decide_eq_false hb2
      go_enter Try.func5, Try.ntmps5
      go_wp2
      go_ret
      exact ⟨rfl, rfl⟩
end Go.Proofs.Ytmfcknlpbliehab

/- cyCounts. -/
namespace Go.Proofs.Ytmfcknlpbliehab
open Go.RowKit
set_option linter.unusedVariables false
/-- the degrees that the first k counts tell -/
def cts (xs : List Int) : Nat → List Int
  | 0 => []
  | k + 1 => cts xs k ++ List.replicate (xs.getD k 0).toNat (k : Int)
def cntL (xs : List Int) : List Int := cts xs xs.length
def ctB (xs : List Int) : Bool := decide (xs.length ≤ 17) && allB xs 0 16
def ctOk (xs : List Int) : Bool := ctB xs && (decide ((cntL xs).length ≤ 16) && decide (0 < (cntL xs).length))
def ctV (xs : List Int) : List Int := if ctOk xs then cntL xs else []
theorem cts_mono (xs : List Int) (k : Nat) : ∀ m, (cts xs k).length ≤ (cts xs (k + m)).length
  | 0 => Nat.le_refl _
  | m + 1 => by
    have := cts_mono xs k m
    rw [← Nat.add_assoc, cts, List.length_append]
    omega
theorem ctOk_long {xs : List Int} {k : Nat} (hk : k ≤ xs.length) (h : 16 < (cts xs k).length) : ctOk xs = false := by
  have := cts_mono xs k (xs.length - k)
  rw [show k + (xs.length - k) = xs.length by omega] at this
  unfold ctOk cntL
  rw [decide_eq_false (p := (cts xs xs.length).length ≤ 16) (by omega), Bool.false_and, Bool.and_false]
theorem ctV_no {xs : List Int} (h : ctOk xs = false) : ctV xs = [] := by unfold ctV; rw [h]; rfl
theorem ctB_at {xs : List Int} (h : ctB xs = true) : xs.length ≤ 17 ∧ ∀ k, k < xs.length → 0 ≤ xs.getD k 0 ∧ xs.getD k 0 ≤ 16 := by
  unfold ctB at h
  rw [Bool.and_eq_true, decide_eq_true_iff] at h
  refine ⟨h.1, fun k hk => ?_⟩
  have h2 := h.2
  unfold allB at h2
  rw [List.all_eq_true] at h2
  have := h2 (xs.getD k 0) (by rw [List.getD_eq_getElem?_getD, List.getElem?_eq_getElem hk]; exact List.getElem_mem hk)
  simpa [inBd] using this
end Go.Proofs.Ytmfcknlpbliehab
