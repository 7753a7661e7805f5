/- Pack 16 of what FnBoldPlay needs: MgS, BpMath. -/
import Derived.Test.YthgblfldncidnaaKFnBoldPlay15
/- The model's MeanGames. -/
namespace Go.Proofs.Ythgblfldncidnaa
open Go.RowKit
set_option linter.unusedVariables false
def mgN (i g n d : Int) : Int := (g * winP i g n d - i * winQ i g n d) * d
def mgD (i g n d : Int) : Int := winQ i g n d * (n - (d - n))
def mgP (i g n d : Int) : Int := if askB i g n d = true then (if n = d - n then i * (g - i) else if mgD i g n d < 0 then numZ (-mgN i g n d) (-mgD i g n d) else numZ (mgN i g n d) (mgD i g n d)) else 0
def mgQ (i g n d : Int) : Int := if askB i g n d = true then (if n = d - n then 1 else if mgD i g n d < 0 then denZ (-mgN i g n d) (-mgD i g n d) else denZ (mgN i g n d) (mgD i g n d)) else 0
end Go.Proofs.Ythgblfldncidnaa

/- Bold play against steady play, visits: finitely many, by the kernel. -/
namespace Go.Proofs.Ythgblfldncidnaa
open Go.RowKit
set_option linter.unusedVariables false
/-- what the law asks of bold play -/
def bpB (i g n d P Q W V : Int) : Bool :=
  decide (0 ≤ P) && (decide (P ≤ Q) && (decide (Q ≤ 1000000000) && (decide (0 ≤ W) && (decide (W ≤ 1000000000) && (decide (0 ≤ V) && (decide (V ≤ 1000000000) &&
  ((if 2 * n = d then decide (P = W ∧ Q = V) else if 2 * n < d then decide (W * Q ≤ P * V) else decide (P * V ≤ W * Q)) &&
  ((if 2 * i = g then decide (P = n ∧ Q = d) else true) && ((if i = g then decide (P = 1 ∧ Q = 1) else true) && (if i = 0 then decide (P = 0) else true))))))))))
def chkBp (I G N D : Nat) : Bool := !bcOk I G N D || (askB I G N D && bpB I G N D (bcP I G N D) (bcQ I G N D) (waP I G N D) (waQ I G N D))
theorem chkBp_all : ((List.range 7).all fun D => (List.range D).all fun N => (List.range 13).all fun G => (List.range (G + 1)).all fun I => chkBp I G N D) = true := by decide +kernel
theorem bp_of {i g n d : Int} (h : bcOk i g n d = true) : askB i g n d = true ∧ bpB i g n d (bcP i g n d) (bcQ i g n d) (waP i g n d) (waQ i g n d) = true := by
  have ha : askB i g n d = true := by unfold bcOk at h; rw [Bool.and_eq_true] at h; exact h.1
  obtain ⟨I, G, N, D, rfl, rfl, rfl, rfl, h1, h2, h3, h4, h5, h6⟩ := ask_nat ha
  have hc := all4 chkBp_all h1 h2 h4 h6
  unfold chkBp at hc
  rw [h, Bool.not_true, Bool.false_or, Bool.and_eq_true] at hc
  exact hc
/-- a ratio times a number, -1 if that is no number -/
def ytN (r s n : Int) : Int := if s < 1 ∨ n % s ≠ 0 then -1 else r * (n / s)
def fvS (a n : Int) : Nat → Int
  | 0 => 0
  | j + 1 => fvS a n j + ytN (fvP a ((j : Int) + 1) n) (fvQ a ((j : Int) + 1) n) n
def chkFv (A B N : Nat) : Bool := !fvOk A B N || (fvOk B A N && (decide (fvP B A N = fvP A B N) && (decide (fvQ B A N = fvQ A B N) && (decide (1 ≤ fvP A B N) && (decide (fvP A B N ≤ 1000) && (decide (0 ≤ ytN (fvP A B N) (fvQ A B N) N) && (decide (ytN (fvP A B N) (fvQ A B N) N ≤ 1000) && (decide (1 ≤ fvQ A B N) && decide (fvQ A B N ≤ 12)))))))))
theorem chkFv_all : ((List.range 13).all fun N => (List.range 13).all fun B => (List.range 13).all fun A => chkFv A B N) = true := by decide +kernel
def chkMn (A N : Nat) : Bool := A == 0 || (decide (N ≤ A) || (askB A N 1 2 && (decide (mgQ A N 1 2 = 1) && (decide (0 ≤ mgP A N 1 2) && (decide (mgP A N 1 2 ≤ 1000) && decide (fvS A N (N - 1) = mgP A N 1 2 * N))))))
theorem chkMn_all : ((List.range 13).all fun N => (List.range 13).all fun A => chkMn A N) = true := by decide +kernel
theorem fvOk_nat {a b n : Int} (h : fvOk a b n = true) : ∃ A B N : Nat, a = A ∧ b = B ∧ n = N ∧ A < 13 ∧ B < 13 ∧ N < 13 ∧ 0 < A ∧ A < N := by
  unfold fvOk inBd at h
  simp only [Bool.and_eq_true, decide_eq_true_eq] at h
  exact ⟨a.toNat, b.toNat, n.toNat, by omega, by omega, by omega, by omega, by omega, by omega, by omega, by omega⟩
theorem fv_of {a b n : Int} (h : fvOk a b n = true) : fvOk b a n = true ∧ fvP b a n = fvP a b n ∧ fvQ b a n = fvQ a b n ∧ 1 ≤ fvP a b n ∧ fvP a b n ≤ 1000 ∧ 0 ≤ ytN (fvP a b n) (fvQ a b n) n ∧ ytN (fvP a b n) (fvQ a b n) n ≤ 1000 ∧ 1 ≤ fvQ a b n ∧ fvQ a b n ≤ 12 := by
  obtain ⟨A, B, N, rfl, rfl, rfl, h1, h2, h3, h4, h5⟩ := fvOk_nat h
  have hc := chkFv_all
  rw [List.all_eq_true] at hc
  have c1 := hc N (List.mem_range.2 h3)
  rw [List.all_eq_true] at c1
  have c2 := c1 B (List.mem_range.2 h2)
  rw [List.all_eq_true] at c2
  have c3 := c2 A (List.mem_range.2 h1)
  unfold chkFv at c3
  rw [h, Bool.not_true, Bool.false_or] at c3
  simpa only [Bool.and_eq_true, decide_eq_true_eq] using c3
theorem mn_of {a b n : Int} (h : fvOk a b n = true) : askB a n 1 2 = true ∧ mgQ a n 1 2 = 1 ∧ 0 ≤ mgP a n 1 2 ∧ mgP a n 1 2 ≤ 1000 ∧ fvS a n (n - 1).toNat = mgP a n 1 2 * n := by
  obtain ⟨A, B, N, rfl, rfl, rfl, h1, h2, h3, h4, h5⟩ := fvOk_nat h
  have hc := chkMn_all
  rw [List.all_eq_true] at hc
  have c1 := hc N (List.mem_range.2 h3)
  rw [List.all_eq_true] at c1
  have c2 := c1 A (List.mem_range.2 h1)
  unfold chkMn at c2
  rw [Bool.or_eq_true, Bool.or_eq_true, beq_iff_eq, decide_eq_true_eq] at c2
  rcases c2 with c2 | c2 | c2
  · omega
  · omega
  · simp only [Bool.and_eq_true, decide_eq_true_eq] at c2
    rw [show ((N : Int) - 1).toNat = N - 1 by omega]
    exact c2
theorem fv_row {a b n : Int} (h : fvOk a b n = true) {j : Int} (hj : 1 ≤ j ∧ j ≤ n - 1) : fvOk a j n = true := by
  unfold fvOk inBd at h ⊢
  simp only [Bool.and_eq_true, decide_eq_true_eq] at h ⊢
  omega
theorem fvS_bd {a b n : Int} (h : fvOk a b n = true) : ∀ k : Nat, (k : Int) ≤ n - 1 → 0 ≤ fvS a n k ∧ fvS a n k ≤ 1000 * (k : Int)
  | 0, _ => by simp [fvS]
  | k + 1, hk => by
    have h1 := fvS_bd h k (by omega)
    have h2 := fv_of (fv_row h (j := (k : Int) + 1) (by omega))
    rw [fvS]
    omega
end Go.Proofs.Ythgblfldncidnaa
