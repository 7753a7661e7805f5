/- Areas of good closed paths by first parts: the rows told by their values. -/
import Derived.Test.YtnlmjeakdjmohaaArMath8
namespace Go.Proofs.Ytnlmjeakdjmohaa
open Go.RowKit
set_option linter.unusedVariables false
/-- the rows for 0 .. k pairs -/
def arR : Nat → List (List Int)
  | 0 => [[1]]
  | k + 1 => arR k ++ [arF (arR k) (k + 1) (k + 1) (List.replicate ((k + 1) * (k + 1) + 1) 0)]
def pS (q : Nat) (l : List Nat) (k : Nat) : Nat → Nat
  | 0 => 0
  | j + 1 => pS q l k j + q ^ (2 * j + 1) * l.getD j 0 * l.getD (k - 1 - j) 0
/-- their values at q -/
def pA (q : Nat) : Nat → List Nat
  | 0 => [1]
  | k + 1 => pA q k ++ [pS q (pA q k) (k + 1) (k + 1)]
theorem arR_length : ∀ k, (arR k).length = k + 1
  | 0 => rfl
  | k + 1 => by rw [arR, List.length_append, arR_length]; rfl
theorem pA_length (q : Nat) : ∀ k, (pA q k).length = k + 1
  | 0 => rfl
  | k + 1 => by rw [pA, List.length_append, pA_length]; rfl
theorem arR_row (k : Nat) : ∀ i, i ≤ k → (arR k).getD i [] = (arR i).getD i [] := by
  induction k with
  | zero => intro i h; obtain rfl : i = 0 := by omega
            rfl
  | succ k ih =>
    intro i h
    by_cases e : i = k + 1
    · subst e; rfl
    · rw [← ih i (by omega), arR, List.getD_eq_getElem?_getD, List.getElem?_append_left (by rw [arR_length]; omega), ← List.getD_eq_getElem?_getD]
theorem pA_row (q k : Nat) : ∀ i, i ≤ k → (pA q k).getD i 0 = (pA q i).getD i 0 := by
  induction k with
  | zero => intro i h; obtain rfl : i = 0 := by omega
            rfl
  | succ k ih =>
    intro i h
    by_cases e : i = k + 1
    · subst e; rfl
    · rw [← ih i (by omega), pA, List.getD_eq_getElem?_getD, List.getElem?_append_left (by rw [pA_length]; omega), ← List.getD_eq_getElem?_getD]
/-- the row for k pairs, its value -/
def arW (k : Nat) : List Int := (arR k).getD k []
def pW (q k : Nat) : Nat := (pA q k).getD k 0
theorem arW_succ (k : Nat) : arW (k + 1) = arF (arR k) (k + 1) (k + 1) (List.replicate ((k + 1) * (k + 1) + 1) 0) := by
  unfold arW
  rw [arR, List.getD_eq_getElem?_getD, List.getElem?_append_right (by rw [arR_length]; omega), arR_length]
  simp
theorem pW_succ (q k : Nat) : pW q (k + 1) = pS q (pA q k) (k + 1) (k + 1) := by
  unfold pW
  rw [pA, List.getD_eq_getElem?_getD, List.getElem?_append_right (by rw [pA_length]; omega), pA_length]
  simp
theorem arR_at {k i : Nat} (h : i ≤ k) : (arR k).getD i [] = arW i := arR_row k i h
theorem pA_at {q k i : Nat} (h : i ≤ k) : (pA q k).getD i 0 = pW q i := pA_row q k i h
structure ArOk (k : Nat) : Prop where
  len : (arW k).length = k * k + 1
  nn : nnL (arW k)
  ev : ∀ q : Nat, ev (q : Int) (arW k) = ((pW q k : Nat) : Int)
theorem arF_ev {k : Nat} (h : ∀ i, i ≤ k → ArOk i) (q : Nat) (L : List Int) (hL : L.length = (k + 1) * (k + 1) + 1) : ∀ j, j ≤ k + 1 →
    ev (q : Int) (arF (arR k) (k + 1) j L) = ev (q : Int) L + ((pS q (pA q k) (k + 1) j : Nat) : Int)
  | 0, _ => by
    show ev (q : Int) L = ev (q : Int) L + ((0 : Nat) : Int)
    omega
  | j + 1, hj => by
    have h1 := h j (by omega)
    have h2 := h (k - j) (by omega)
    have ha : j * j ≤ j * k := Nat.mul_le_mul_left _ (by omega)
    have hsq : (k - j) * (k - j) + j * j + 2 * (j * (k - j)) = k * k := by
      obtain ⟨d, hd⟩ : ∃ d, k = j + d := ⟨k - j, by omega⟩
      subst hd
      rw [Nat.add_sub_cancel_left, Nat.add_mul, Nat.mul_add, Nat.mul_add, Nat.mul_comm d j]
      omega
    have hk1 : (k + 1) * (k + 1) = k * k + 2 * k + 1 := by rw [Nat.add_mul, Nat.mul_add]; omega
    rw [arF, show k + 1 - 1 - j = k - j by omega, arR_at (show j ≤ k by omega), arR_at (show k - j ≤ k by omega)]
    rw [arA_ev _ _ _ _ _ _ (Nat.le_refl _) (by rw [arF_len, hL, h1.len, h2.len, hk1]; omega), arF_ev h q L hL j (by omega), List.take_length, h1.ev, h2.ev]
    rw [pS, show k + 1 - 1 - j = k - j by omega, pA_at (show j ≤ k by omega), pA_at (show k - j ≤ k by omega), Int.natCast_add, Int.natCast_mul, Int.natCast_mul, Int.natCast_pow]
    omega
theorem arF_nn {k : Nat} (h : ∀ i, i ≤ k → ArOk i) {L : List Int} (hL : nnL L) : ∀ j, j ≤ k + 1 → nnL (arF (arR k) (k + 1) j L)
  | 0, _ => hL
  | j + 1, hj => by
    have h1 := h j (by omega)
    have h2 := h (k - j) (by omega)
    rw [arF, show k + 1 - 1 - j = k - j by omega, arR_at (show j ≤ k by omega), arR_at (show k - j ≤ k by omega)]
    exact arA_nn h1.nn h2.nn _ (arF_nn h hL j (by omega))
theorem arOk_all (k : Nat) : ∀ i, i ≤ k → ArOk i := by
  induction k with
  | zero =>
    intro i h
    obtain rfl : i = 0 := by omega
    refine ⟨rfl, ?_, fun q => ?_⟩
    · intro j
      cases j with
      | zero => show (0 : Int) ≤ 1; omega
      | succ j => simp [arW, arR]
    · show (1 : Int) + (q : Int) * 0 = ((1 : Nat) : Int)
      omega
  | succ k ih =>
    intro i h
    by_cases e : i = k + 1
    · subst e
      refine ⟨?_, ?_, fun q => ?_⟩
      · rw [arW_succ, arF_len, List.length_replicate]
      · rw [arW_succ]
        exact arF_nn ih (nnL_zeros _) _ (Nat.le_refl _)
      · rw [arW_succ, pW_succ, arF_ev ih q _ (by rw [List.length_replicate]) _ (Nat.le_refl _), ev_zeros]
        omega
    · exact ih i (by omega)
theorem arOk (k : Nat) : ArOk k := arOk_all k k (Nat.le_refl _)
def chkCat : Bool := (List.range 16).all fun k => pW 1 k ≤ 9694845
theorem chkCat_ok : chkCat = true := by decide +kernel
theorem pW_small {k : Nat} (hk : k ≤ 15) : pW 1 k ≤ 9694845 := by
  have h := chkCat_ok
  unfold chkCat at h
  rw [List.all_eq_true] at h
  simpa using h k (List.mem_range.2 (by omega))
theorem arW_bd {k : Nat} (hk : k ≤ 15) (j : Nat) : 0 ≤ (arW k).getD j 0 ∧ (arW k).getD j 0 ≤ 9694845 := by
  have h := arOk k
  refine ⟨h.nn j, ?_⟩
  have h1 := ev_one_ge h.nn j
  have h2 := h.ev 1
  have h3 := pW_small hk
  have h4 : ev 1 (arW k) = ((pW 1 k : Nat) : Int) := h2
  omega
def qB : Nat := 4294967296
def chkQ : Bool := (List.range 16).all fun k => decide (pW qB k < qB ^ (k * k + 1))
theorem chkQ_ok : chkQ = true := by decide +kernel
theorem arW_dec {k : Nat} (hk : k ≤ 15) : arW k = dec qB (k * k + 1) (pW qB k) := by
  have h := arOk k
  have hq : 0 < qB := by decide
  have hlt : pW qB k < qB ^ (k * k + 1) := by
    have h := chkQ_ok
    unfold chkQ at h
    rw [List.all_eq_true] at h
    simpa using h k (List.mem_range.2 (by omega))
  refine ev_inj (q := (qB : Int)) (by rw [h.len, dec_length]) (fun j => ?_) (dec_bd hq _ _) (by rw [h.ev, dec_ev hq _ _ hlt])
  have := arW_bd hk j
  have e : (qB : Int) = 4294967296 := rfl
  omega
/-! ### the sum of the areas -/
def soS (L : List Int) : Nat → Int
  | 0 => 0
  | j + 1 => soS L j + (j : Int) * L.getD j 0
/-- 4 to the n less the middle of the row of 2 n + 1 -/
def chkSo (k c : Nat) : Bool := soS (dec qB (k * k + 1) (pW qB k)) (k * k + 1) + (c : Int) == (4 : Int) ^ k
def mids : List Nat := [1, 3, 10, 35, 126, 462, 1716, 6435, 24310, 92378, 352716, 1352078, 5200300, 20058300, 77558760, 300540195]
theorem chkSo_ok : ((List.range 16).all fun k => chkSo k (mids.getD k 0)) = true := by decide +kernel
theorem so_form {k : Nat} (hk : k ≤ 15) : soS (arW k) (k * k + 1) + ((mids.getD k 0 : Nat) : Int) = (4 : Int) ^ k := by
  have h := chkSo_ok
  rw [List.all_eq_true] at h
  have h1 := h k (List.mem_range.2 (by omega))
  unfold chkSo at h1
  rw [arW_dec hk]
  exact beq_iff_eq.1 h1
theorem soS_bd {k : Nat} (hk : k ≤ 15) : ∀ j, j ≤ k * k + 1 → 0 ≤ soS (arW k) j ∧ soS (arW k) j ≤ (j : Int) * 2181340125
  | 0, _ => by simp [soS]
  | j + 1, h => by
    have h1 := soS_bd hk j (by omega)
    have h2 := arW_bd hk j
    have h3 : k * k ≤ 15 * 15 := Nat.mul_le_mul hk hk
    have h4 : 0 ≤ (j : Int) * (arW k).getD j 0 := Int.mul_nonneg (by omega) h2.1
    have h5 : (j : Int) * (arW k).getD j 0 ≤ 225 * 9694845 := Int.mul_le_mul (by omega) h2.2 h2.1 (by omega)
    rw [soS]
    omega
end Go.Proofs.Ytnlmjeakdjmohaa
