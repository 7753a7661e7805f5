/- Pack 19 of what FnBoldPlay needs: GridMath, DelS. -/
import Derived.Test.YthgblfldncidnaaKFnBoldPlay18
/- Ways over a grid: the same in both directions; Schroder's recurrence, as far as it is asked. -/
namespace Go.Proofs.Ythgblfldncidnaa
open Go.RowKit
set_option linter.unusedVariables false
theorem del_col : ∀ y, del y 0 = 1 := del_head
theorem del_row (x : Nat) : del 0 x = 1 := rfl
theorem del_symm : ∀ y x, del y x = del x y
  | 0, 0 => rfl
  | 0, x + 1 => by rw [del_col]; rfl
  | y + 1, 0 => by rw [del_col]; rfl
  | y + 1, x + 1 => by
    rw [del_step, del_step, del_symm y (x + 1), del_symm (y + 1) x, del_symm y x]
    omega
theorem sch_fact : ∀ k, k < 13 → sch k k ≤ del k k ∧ (0 < k → sch k k % 2 = 0) ∧ (2 ≤ k → (k + 1) * sch k k + (k - 2) * sch (k - 2) (k - 2) = (6 * k - 3) * sch (k - 1) (k - 1)) := by decide +kernel
theorem del_of {a b : Int} (h : delOk a b = true) : ∃ m n : Nat, a = m ∧ b = n ∧ m ≤ 12 ∧ n ≤ 12 ∧ delV a b = ((del n m : Nat) : Int) := by
  have h2 := h
  unfold delOk at h2
  simp only [Bool.and_eq_true, decide_eq_true_eq] at h2
  refine ⟨a.toNat, b.toNat, by omega, by omega, by omega, by omega, ?_⟩
  unfold delV
  rw [if_pos h]
theorem del_mk {m n : Nat} (hm : m ≤ 12) (hn : n ≤ 12) : delOk (m : Int) (n : Int) = true ∧ delV (m : Int) (n : Int) = ((del n m : Nat) : Int) := by
  have h : delOk (m : Int) (n : Int) = true := by
    unfold delOk
    simp only [Bool.and_eq_true, decide_eq_true_eq]
    omega
  refine ⟨h, ?_⟩
  unfold delV
  rw [if_pos h]
  rfl
theorem sch_of {a : Int} (h : schOk a = true) : ∃ k : Nat, a = k ∧ k ≤ 12 ∧ schV a = ((sch k k : Nat) : Int) := by
  have h2 := h
  unfold schOk at h2
  simp only [Bool.and_eq_true, decide_eq_true_eq] at h2
  refine ⟨a.toNat, by omega, by omega, ?_⟩
  unfold schV
  rw [if_pos h]
theorem sch_mk {k : Nat} (hk : k ≤ 12) : schOk (k : Int) = true ∧ schV (k : Int) = ((sch k k : Nat) : Int) := by
  have h : schOk (k : Int) = true := by
    unfold schOk
    simp only [Bool.and_eq_true, decide_eq_true_eq]
    omega
  refine ⟨h, ?_⟩
  unfold schV
  rw [if_pos h]
  rfl
end Go.Proofs.Ythgblfldncidnaa

/- The model's CountDelannoy. -/
namespace Go.Proofs.Ythgblfldncidnaa
open Go.RowKit
set_option linter.unusedVariables false
end Go.Proofs.Ythgblfldncidnaa
