/- Pack 30 of what FnExactRankOrdered needs: HkS9, HkS10. -/
import Derived.Test.YtmfcknlpbliehaaDoorKFnExactRankOrdered29
/- HooksOf: the model. -/
namespace Go.Proofs.YtmfcknlpbliehaaDoor
open Go.RowKit
set_option linter.unusedVariables false
end Go.Proofs.YtmfcknlpbliehaaDoor

/- HooksOf: the model's public function; facts on the hooks of a result. -/
namespace Go.Proofs.YtmfcknlpbliehaaDoor
open Go.RowKit
set_option linter.unusedVariables false
theorem res_q4 {xs : List Int} (h : resB xs = true) : ∃ a b c d : Nat, xs = q4 a b c d ∧ b ≤ a ∧ c ≤ b ∧ d ≤ c ∧ a + b + c + d ≤ 16 := (resB_iff xs).1 h
theorem hk_facts {xs : List Int} (h : resB xs = true) : (hkL xs).length ≤ 16 ∧ (∀ x, x ∈ hkL xs → 1 ≤ x) ∧ pd (hkL xs) ≤ 100000000000000 ∧ ((hkL xs).length : Int) = xs.sum := by
  obtain ⟨a, b, c, d, rfl, h1, h2, h3, h4⟩ := res_q4 h
  obtain ⟨p1, p2, p3, _, _⟩ := resP_of h1 h2 h3 h4
  refine ⟨by omega, p2, p3, ?_⟩
  rw [p1]
  simp [q4]
  omega
theorem hkV_len (xs : List Int) : (hkV xs).length ≤ 4 := by
  unfold hkV
  split
  · rw [hksTo_len]; exact Nat.le_refl _
  · simp
theorem hkV_flat (xs : List Int) : (hkV xs).flatten.length ≤ 16 := by
  unfold hkV
  split
  · rename_i h
    exact (hk_facts h).1
  · simp
theorem hkRow_16 {xs : List Int} (h : resB xs = true) (j : Nat) (hj : j < 4) : ((hksTo xs 4).getD j []).length ≤ 16 := by
  have h1 : ((hksTo xs 4).getD j []).length ≤ (hksTo xs 4).flatten.length := by
    rw [List.getD_eq_getElem?_getD, List.getElem?_eq_getElem (by rw [hksTo_len]; exact hj)]
    show ((hksTo xs 4)[j]'_).length ≤ _
    exact (List.sublist_flatten_of_mem (List.getElem_mem _)).length_le
  have := (hk_facts h).1
  unfold hkL at this
  omega
theorem pd_take {l : List Int} {k : Nat} (h : k < l.length) : pd (l.take (k + 1)) = pd (l.take k) * l.getD k 0 := by
  rw [List.take_succ_eq_append_getElem h, pd_snoc, List.getD_eq_getElem?_getD, List.getElem?_eq_getElem h]
  rfl
theorem pd_takeB {l : List Int} (h : ∀ x, x ∈ l → 1 ≤ x) (k : Nat) : 1 ≤ pd (l.take k) ∧ pd (l.take k) ≤ pd l := by
  have := pd_pre (l := l.take k) (r := l.drop k) (by rw [List.take_append_drop]; exact h)
  rwa [List.take_append_drop] at this
def coW (xs : List Int) : Int := if resB xs = true then coV xs else 0
end Go.Proofs.YtmfcknlpbliehaaDoor
