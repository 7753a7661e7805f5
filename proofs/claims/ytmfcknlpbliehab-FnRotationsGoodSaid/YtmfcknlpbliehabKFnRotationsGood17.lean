/- Pack 17 of what FnRotationsGood needs: Choose, Orders. -/
import Derived.Test.YtmfcknlpbliehabKFnRotationsGood16
/- paChoose, paSteps, spec.CountPaths. -/
namespace Go.Proofs.Ytmfcknlpbliehab
set_option maxRecDepth 100000
open Go.RowKit
/-- the row of the numbers for i, entries from j on already those for i + 1 -/
def chRow (k i j : Nat) : List Int := (List.range (k + 1)).map fun x => ((if j < x then chs (i + 1) x else chs i x : Nat) : Int)
theorem chRow_length (k i j : Nat) : (chRow k i j).length = k + 1 := by simp [chRow]
theorem chRow_get (k i j x : Nat) (h : x ≤ k) : (chRow k i j).getD x 0 = ((if j < x then chs (i + 1) x else chs i x : Nat) : Int) := by
  unfold chRow; rw [List.getD_eq_getElem?_getD, List.getElem?_map, List.getElem?_range (by omega)]; rfl
theorem chRow_start (k : Nat) : (List.replicate (k + 1) (0 : Int)).set 0 1 = chRow k 0 k := by
  apply List.ext_getElem
  · simp [chRow]
  · intro x h1 h2
    simp [chRow] at h2 ⊢
    rw [List.getElem_set]
    by_cases e : 0 = x
    · subst e; simp [chs_zero]
    · rw [if_neg e, if_neg (by omega), List.getElem_replicate, chs_lt 0 x (by omega)]; rfl
theorem chRow_step (k i j : Nat) (h : j + 1 ≤ k) : (chRow k i (j + 1)).set (j + 1) ((chs i (j + 1) : Nat) + (chs i j : Nat) : Int) = chRow k i j := by
  apply List.ext_getElem
  · simp [chRow]
  · intro x h1 h2
    simp [chRow] at h2 ⊢
    rw [List.getElem_set]
    by_cases e : j + 1 = x
    · subst e
      rw [if_pos rfl, if_pos (by omega), chs_succ]
      omega
    · rw [if_neg e, List.getElem_map, List.getElem_range]
      by_cases c : j + 1 < x
      · rw [if_pos c, if_pos (by omega)]
      · rw [if_neg c, if_neg (by omega)]
theorem chRow_next (k i : Nat) : chRow k i 0 = chRow k (i + 1) k := by
  apply List.ext_getElem
  · simp [chRow]
  · intro x h1 h2
    simp [chRow] at h2 ⊢
    rw [if_neg (show ¬ k < x by omega)]
    by_cases c : 0 < x
    · rw [if_pos c]
    · have : x = 0 := by omega
      subst this
      simp [chs_zero]
theorem chRow_cut (k i : Nat) : chRow k i k = chRow k i (min (i + 1) k) := by
  apply List.ext_getElem
  · simp [chRow]
  · intro x h1 h2
    simp [chRow] at h2 ⊢
    rw [if_neg (show ¬ k < x by omega)]
    by_cases c : min (i + 1) k < x
    · rw [if_pos c, chs_lt i x (by omega), chs_lt (i + 1) x (by omega)]
    · rw [if_neg c]
theorem countW_ret (u d : Int) (w : World) : Calls Try.prog 67 #[.int .i64 u, .int .i64 d] w (Ret w (.tuple #[.int .i64 (cntV u d), .bool (cntOk u d)])) :=
  (count_ret u d w).mono fun _ _ ⟨h1, h2⟩ => ⟨h1, h2 ▸ Below.refl _ _⟩
end Go.Proofs.Ytmfcknlpbliehab

/- cyOrders, CountForests. -/
namespace Go.Proofs.Ytmfcknlpbliehab
open Go.RowKit
set_option linter.unusedVariables false
def fct : Nat → Nat
  | 0 => 1
  | n + 1 => (n + 1) * fct n
theorem chs_fct (n : Nat) : ∀ k, chs (n + k) k * fct n ≤ fct (n + k)
  | 0 => by rw [chs_zero, Nat.one_mul]; exact Nat.le_refl _
  | k + 1 => by
    have h1 := chs_fct n k
    have h2 := chs_absorb (n + k) k
    have h3 : chs (n + (k + 1)) (k + 1) ≤ (n + k + 1) * chs (n + k) k := by
      rw [← Nat.add_assoc, ← h2]
      exact Nat.le_mul_of_pos_left _ (by omega)
    have h4 := Nat.mul_le_mul_right (fct n) h3
    rw [Nat.mul_assoc] at h4
    refine Nat.le_trans h4 ?_
    rw [← Nat.add_assoc, fct]
    exact Nat.mul_le_mul_left _ h1
theorem fct_mono (n : Nat) : ∀ k, fct n ≤ fct (n + k)
  | 0 => Nat.le_refl _
  | k + 1 => by rw [← Nat.add_assoc, fct]; exact Nat.le_trans (fct_mono n k) (Nat.le_mul_of_pos_left _ (by omega))
def ords (xs : List Int) : Nat → Nat
  | 0 => 1
  | k + 1 => ords xs k * chs (cts xs (k + 1)).length (xs.getD k 0).toNat
theorem cts_len (xs : List Int) (k : Nat) : (cts xs (k + 1)).length = (cts xs k).length + (xs.getD k 0).toNat := by
  rw [cts, List.length_append, List.length_replicate]
theorem ords_fct (xs : List Int) : ∀ k, ords xs k ≤ fct (cts xs k).length
  | 0 => Nat.le_refl _
  | k + 1 => by
    rw [ords, cts_len]
    refine Nat.le_trans (Nat.mul_le_mul_right _ (ords_fct xs k)) ?_
    rw [Nat.mul_comm]
    exact chs_fct _ _
theorem ords_bd {xs : List Int} {k : Nat} (h : (cts xs k).length ≤ 16) : ords xs k ≤ 20922789888000 := by
  have h1 := ords_fct xs k
  have h2 := fct_mono (cts xs k).length (16 - (cts xs k).length)
  rw [show (cts xs k).length + (16 - (cts xs k).length) = 16 by omega] at h2
  have h3 : fct 16 = 20922789888000 := by decide
  omega
theorem ctOk_of {xs : List Int} (h : ctOk xs = true) : ctB xs = true ∧ (cntL xs).length ≤ 16 ∧ 0 < (cntL xs).length := by
  unfold ctOk at h
  simpa using h
def ordN (xs : List Int) : Nat := ords xs xs.length
def cfV (xs : List Int) : Int := if ctOk xs then (if exc (cntL xs) < 1 then 0 else (ordN xs : Int) * exc (cntL xs) / ((cntL xs).length : Int)) else 0
theorem cntL_deg {xs : List Int} (h : ctOk xs = true) : degB (cntL xs) = true := by
  obtain ⟨hB, h16, hp⟩ := ctOk_of h
  obtain ⟨h17, hb⟩ := ctB_at hB
  have key : ∀ k, k ≤ xs.length → ∀ x ∈ cts xs k, (0 : Int) ≤ x ∧ x ≤ 16 := by
    intro k
    induction k with
    | zero => intro _ x hx; simp [cts] at hx
    | succ k ih =>
      intro hk x hx
      rw [cts, List.mem_append] at hx
      rcases hx with hx | hx
      · exact ih (by omega) x hx
      · have := List.eq_of_mem_replicate hx
        omega
  unfold degB allB inBd
  rw [Bool.and_eq_true, List.all_eq_true]
  refine ⟨by simp; omega, fun x hx => ?_⟩
  have := key _ (Nat.le_refl _) x hx
  simp; omega
end Go.Proofs.Ytmfcknlpbliehab
