/- Areas by first parts: how great the numbers get while the rows are made. -/
import Derived.Test.YtnlmjeakdjmohaaArMath9
namespace Go.Proofs.Ytnlmjeakdjmohaa
open Go.RowKit
set_option linter.unusedVariables false
theorem ev_take_le : ∀ {L : List Int}, nnL L → ∀ j, ev 1 (L.take j) ≤ ev 1 L
  | [], _, j => by rw [List.take_nil]; exact Int.le_refl _
  | x :: xs, h, 0 => ev_nn (q := 1) (by omega) h
  | x :: xs, h, j + 1 => by
    have := ev_take_le (nnL_cons h).2 j
    show x + 1 * ev 1 (xs.take j) ≤ x + 1 * ev 1 xs
    omega
theorem nnL_take {L : List Int} (h : nnL L) (j : Nat) : nnL (L.take j) := fun i => by
  rw [List.getD_eq_getElem?_getD, List.getElem?_take]
  split
  · rw [← List.getD_eq_getElem?_getD]; exact h i
  · exact Int.le_refl _
theorem ev_one {k : Nat} (hk : k ≤ 15) : 0 ≤ ev 1 (arW k) ∧ ev 1 (arW k) ≤ 9694845 := by
  have h := arOk k
  have h2 : ev 1 (arW k) = ((pW 1 k : Nat) : Int) := h.ev 1
  have h3 := pW_small hk
  omega
theorem pS_mono (q : Nat) (l : List Nat) (k : Nat) : ∀ d j, pS q l k j ≤ pS q l k (j + d)
  | 0, j => Nat.le_refl _
  | d + 1, j => by
    have := pS_mono q l k d j
    show pS q l k j ≤ pS q l k (j + d) + q ^ (2 * (j + d) + 1) * l.getD (j + d) 0 * l.getD (k - 1 - (j + d)) 0
    omega
theorem sq_parts {k f : Nat} (hf : f ≤ k) : 2 * f + 1 + (f * f + 1) + ((k - f) * (k - f) + 1) ≤ (k + 1) * (k + 1) + 1 + 1 := by
  obtain ⟨d, rfl⟩ : ∃ d, k = f + d := ⟨k - f, by omega⟩
  rw [Nat.add_sub_cancel_left]
  have e : (f + d + 1) * (f + d + 1) = f * f + d * d + 2 * (f * d) + 2 * f + 2 * d + 1 := by
    rw [Nat.add_mul, Nat.mul_add, Nat.mul_add, Nat.add_mul, Nat.add_mul, Nat.mul_comm d f]
    omega
  omega
def arZ (k : Nat) : List Int := List.replicate ((k + 1) * (k + 1) + 1) 0
theorem arF_one {k f : Nat} (hk : k ≤ 14) (hf : f ≤ k + 1) : nnL (arF (arR k) (k + 1) f (arZ k)) ∧ ev 1 (arF (arR k) (k + 1) f (arZ k)) ≤ 9694845 := by
  refine ⟨arF_nn (fun i _ => arOk i) (nnL_zeros _) f hf, ?_⟩
  have h1 := arF_ev (fun i _ => arOk i) 1 (arZ k) (by rw [arZ, List.length_replicate]) f hf
  have h0 : ev ((1 : Nat) : Int) (arZ k) = 0 := ev_zeros _ _
  have h2 := pS_mono 1 (pA 1 k) (k + 1) (k + 1 - f) f
  rw [show f + (k + 1 - f) = k + 1 by omega, ← pW_succ] at h2
  have h3 := pW_small (show k + 1 ≤ 15 by omega)
  have h4 : ev 1 (arF (arR k) (k + 1) f (arZ k)) = ev ((1 : Nat) : Int) (arF (arR k) (k + 1) f (arZ k)) := rfl
  omega
theorem mul_9 {x y : Int} (hx : 0 ≤ x ∧ x ≤ 9694845) (hy : 0 ≤ y ∧ y ≤ 9694845) : 0 ≤ x * y ∧ x * y ≤ 93990019574025 := by
  refine ⟨Int.mul_nonneg hx.1 hy.1, ?_⟩
  have := Int.mul_le_mul hx.2 hy.2 hy.1 (by omega)
  omega
theorem entry_bd {k f a b : Nat} (hk : k ≤ 14) (hf : f ≤ k) (ha : a ≤ f * f) (hb : b ≤ (k - f) * (k - f) + 1) {x : Int} (hx : 0 ≤ x ∧ x ≤ 9694845) (p : Nat) :
    0 ≤ (arB (2 * f + 1 + a) x (arW (k - f)) b (arA (2 * f + 1) (arW f) (arW (k - f)) a (arF (arR k) (k + 1) f (arZ k)))).getD p 0 ∧
    (arB (2 * f + 1 + a) x (arW (k - f)) b (arA (2 * f + 1) (arW f) (arW (k - f)) a (arF (arR k) (k + 1) f (arZ k)))).getD p 0 ≤ 200000000000000 := by
  have h1 := arOk f
  have h2 := arOk (k - f)
  have hF := arF_one hk (show f ≤ k + 1 by omega)
  have hA := arA_nn (base := 2 * f + 1) h1.nn h2.nn a hF.1
  have hB := arB_nn (base := 2 * f + 1 + a) hx.1 h2.nn b hA
  have hsq := sq_parts hf
  refine ⟨hB p, Int.le_trans (ev_one_ge hB p) ?_⟩
  have hlF : (arF (arR k) (k + 1) f (arZ k)).length = (k + 1) * (k + 1) + 1 := by rw [arF_len, arZ, List.length_replicate]
  rw [arB_ev 1 _ _ _ _ b (by rw [h2.len]; exact hb) (by rw [arA_len, hlF]; omega), arA_ev 1 _ _ _ _ a (by rw [h1.len]; omega) (by rw [hlF, h2.len]; omega), Int.one_pow, Int.one_pow, Int.mul_one, Int.one_mul]
  have b1 := ev_take_le h1.nn a
  have b2 := ev_nn (q := 1) (by omega) (nnL_take h1.nn a)
  have b3 := ev_take_le h2.nn b
  have b4 := ev_nn (q := 1) (by omega) (nnL_take h2.nn b)
  have o1 := ev_one (show f ≤ 15 by omega)
  have o2 := ev_one (show k - f ≤ 15 by omega)
  have c1 := mul_9 (x := ev 1 ((arW f).take a)) (y := ev 1 (arW (k - f))) (by omega) o2
  have c2 := mul_9 (x := x) (y := ev 1 ((arW (k - f)).take b)) hx (by omega)
  omega
end Go.Proofs.Ytnlmjeakdjmohaa
