/- Pack 11 of what FnFansAndCubes needs: GdS, TdS, ChMath. -/
import Derived.Test.YtmfcknlpbliehabKFnFansAndCubes10
/- Cells that are only read; the model's ncGood. -/
namespace Go.Proofs.Ytmfcknlpbliehab
open Go.RowKit
set_option linter.unusedVariables false
theorem inBd_if6 {a lo hi : Int} (h : inBd lo hi a = true) : lo ≤ a ∧ a ≤ hi := by unfold inBd at h; simpa only [Bool.and_eq_true, decide_eq_true_eq] using h
/-- a slice of cells that is only read: X, Y, X, Y, .. -/
structure RCels (w : World) (v : Value) (n : Nat) (xs : List Int) : Prop where
  shape : ∃ A c, v = .slice A n c
  room : ∀ A k c, v = .slice A k c → k ≤ c ∧ c ≤ maxLen
  cells : 0 < n → ∃ g o c, v = .slice (some ⟨g, o, none⟩) n c ∧ g < w.heap.size ∧ ∀ j, j < n * 2 → w.cell? ⟨g, o + j, none⟩ = some (.int .i64 (xs.getD j 0))
theorem RCels.below {w w' : World} {v : Value} {n : Nat} {xs : List Int} (h : RCels w v n xs) (hb : Below w.heap.size w w') : RCels w' v n xs :=
  ⟨h.shape, h.room, fun hx => by
    obtain ⟨g, o, c, hv, hg, hc⟩ := h.cells hx
    exact ⟨g, o, c, hv, Nat.lt_of_lt_of_le hg hb.size, fun j hj => (hb.cell (p := ⟨g, o + j, none⟩) hg).trans (hc j hj)⟩⟩
def gdC (xs : List Int) (i : Nat) : Bool := cellB (xs.getD (i * 2) 0) (xs.getD (i * 2 + 1) 0)
def gdB (n : Nat) (xs : List Int) (m : Nat) (ys : List Int) : Bool := (inBd 1 4 (n : Int) && m == n) && (List.range n).all fun i => gdC xs i && gdC ys i
theorem gdB_no {n m : Nat} {xs ys : List Int} {i : Nat} (hi : i < n) (h : (gdC xs i && gdC ys i) = false) : gdB n xs m ys = false := by
  unfold gdB
  rw [Bool.and_eq_false_iff]
  refine .inr ?_
  rw [← Bool.not_eq_true, List.all_eq_true]
  intro h2
  have h3 := h2 i (List.mem_range.mpr hi)
  rw [h] at h3
  exact absurd h3 (by decide)
theorem gdB_yes {n : Nat} {xs ys : List Int} (h0 : inBd 1 4 (n : Int) = true) (h : ∀ k, k < n → (gdC xs k && gdC ys k) = true) : gdB n xs n ys = true := by
  unfold gdB
  rw [h0, beq_self_eq_true, Bool.true_and, Bool.true_and, List.all_eq_true]
  exact fun k hk => h k (List.mem_range.mp hk)
/-- both lists of cells -/
structure Gd (w : World) (v1 v2 : Value) (n m : Nat) (xs ys : List Int) (X : World) : Prop where
  a : RCels X v1 n xs
  b : RCels X v2 m ys
  below : Below w.heap.size w X
theorem Gd.kept {w X X' : World} {v1 v2 : Value} {n m : Nat} {xs ys : List Int} (h : Gd w v1 v2 n m xs ys X) (hb : Below X.heap.size X X') : Gd w v1 v2 n m xs ys X' := ⟨h.a.below hb, h.b.below hb, h.below.trans (hb.mono h.below.size)⟩
end Go.Proofs.Ytmfcknlpbliehab

/- The model's ncTied. -/
namespace Go.Proofs.Ytmfcknlpbliehab
open Go.RowKit
set_option linter.unusedVariables false
/-- cell j (b) may follow cell i (a) -/
def tdP (bx bY ax aY : Int) : Bool := !(decide (ax < bx) || decide (bY < aY)) && !(ax == bx && aY == bY)
def tdC (xs : List Int) (j i : Nat) : Bool := tdP (xs.getD (j * 2) 0) (xs.getD (j * 2 + 1) 0) (xs.getD (i * 2) 0) (xs.getD (i * 2 + 1) 0)
def tdB (n : Nat) (xs : List Int) : Bool := (List.range n).all fun j => (List.range j).all fun i => tdC xs j i
theorem tdB_no {n : Nat} {xs : List Int} {j i : Nat} (hj : j < n) (hi : i < j) (h : tdC xs j i = false) : tdB n xs = false := by
  rw [← Bool.not_eq_true]
  unfold tdB
  intro h2
  have h3 := List.all_eq_true.mp (List.all_eq_true.mp h2 j (List.mem_range.mpr hj)) i (List.mem_range.mpr hi)
  rw [h] at h3
  exact absurd h3 (by decide)
theorem tdB_yes {n : Nat} {xs : List Int} (h : ∀ j, j < n → ∀ i, i < j → tdC xs j i = true) : tdB n xs = true := by
  unfold tdB
  rw [List.all_eq_true]
  intro j hj
  rw [List.all_eq_true]
  exact fun i hi => h j (List.mem_range.mp hj) i (List.mem_range.mp hi)
theorem RCels.at {w : World} {n : Nat} {xs : List Int} {g o c : Nat} (h : RCels w (.slice (some ⟨g, o, none⟩) n c) n xs) {k : Nat} (hk : k < n) :
    w.cell? ⟨g, o + k * 2, none⟩ = some (.int .i64 (xs.getD (k * 2) 0)) ∧ w.cell? ⟨g, o + k * 2 + 1, none⟩ = some (.int .i64 (xs.getD (k * 2 + 1) 0)) := by
  obtain ⟨g', o', c', e, _, hc⟩ := h.cells (by omega)
  injection e with e _ e3
  injection e with e
  injection e with e1 e2
  subst e1 e2
  exact ⟨hc (k * 2) (by omega), hc (k * 2 + 1) (by omega)⟩
end Go.Proofs.Ytmfcknlpbliehab

/- Binomial numbers. -/
namespace Go.Proofs.Ytmfcknlpbliehab
open Go.RowKit
/-- the number of ways to choose k of n -/
def chs : Nat → Nat → Nat
  | _, 0 => 1
  | 0, _ + 1 => 0
  | n + 1, k + 1 => chs n k + chs n (k + 1)
theorem chs_zero (n : Nat) : chs n 0 = 1 := by cases n <;> rfl
theorem chs_succ (n k : Nat) : chs (n + 1) (k + 1) = chs n k + chs n (k + 1) := rfl
theorem chs_lt : ∀ (n k : Nat), n < k → chs n k = 0
  | 0, k + 1, _ => rfl
  | n + 1, k + 1, h => by rw [chs_succ, chs_lt n k (by omega), chs_lt n (k + 1) (by omega)]
theorem chs_self (n : Nat) : chs n n = 1 := by
  induction n with
  | zero => rfl
  | succ n ih => rw [chs_succ, ih, chs_lt n (n + 1) (by omega)]
theorem chs_le : ∀ (n k : Nat), chs n k ≤ 2 ^ n
  | n, 0 => by rw [chs_zero]; exact Nat.one_le_two_pow
  | 0, k + 1 => by simp [chs]
  | n + 1, k + 1 => by
    rw [chs_succ, Nat.pow_succ]
    have h1 := chs_le n k
    have h2 := chs_le n (k + 1)
    omega
theorem chs_small (n k : Nat) (h : n ≤ 60) : chs n k ≤ 1152921504606846976 := by
  have h1 := chs_le n k
  have h2 : 2 ^ n ≤ 2 ^ 60 := Nat.pow_le_pow_right (by omega) h
  omega
theorem chs_small40 (n k : Nat) (h : n ≤ 40) : chs n k ≤ 1099511627776 := by
  have h1 := chs_le n k
  have h2 : 2 ^ n ≤ 2 ^ 40 := Nat.pow_le_pow_right (by omega) h
  omega
theorem chs_pos : ∀ (n k : Nat), k ≤ n → 0 < chs n k
  | n, 0, _ => by rw [chs_zero]; omega
  | n + 1, k + 1, h => by
    rw [chs_succ]
    have := chs_pos n k (by omega)
    omega
theorem chs_absorb : ∀ (n k : Nat), (k + 1) * chs (n + 1) (k + 1) = (n + 1) * chs n k
  | 0, 0 => rfl
  | 0, k + 1 => by rw [chs_lt 1 (k + 2) (by omega), chs_lt 0 (k + 1) (by omega)]; simp
  | n + 1, 0 => by
    have h := chs_absorb n 0
    rw [chs_zero] at h ⊢
    rw [chs_succ, chs_zero]
    omega
  | n + 1, k + 1 => by
    have h1 := chs_absorb n k
    have h2 := chs_absorb n (k + 1)
    rw [chs_succ (n + 1) (k + 1)]
    have e : (k + 1 + 1) * (chs (n + 1) (k + 1) + chs (n + 1) (k + 1 + 1)) = (k + 1) * chs (n + 1) (k + 1) + chs (n + 1) (k + 1) + (k + 1 + 1) * chs (n + 1) (k + 1 + 1) := by
      rw [Nat.mul_add, Nat.succ_mul (k + 1)]
    rw [e, h1, h2]
    have e2 : (n + 1 + 1) * chs (n + 1) (k + 1) = (n + 1) * chs (n + 1) (k + 1) + chs (n + 1) (k + 1) := Nat.succ_mul _ _
    rw [e2, chs_succ n k, Nat.mul_add]
    omega
theorem chs_mul (d i : Nat) : chs (d + i) i * (d + (i + 1)) / (i + 1) = chs (d + (i + 1)) (i + 1) := by
  have h := chs_absorb (d + i) i
  have e : chs (d + i) i * (d + (i + 1)) = (i + 1) * chs (d + i + 1) (i + 1) := by rw [h, Nat.mul_comm]; rfl
  rw [e, Nat.mul_div_cancel_left _ (by omega)]
  rfl
theorem chs_symm : ∀ (a b : Nat), chs (a + b) a = chs (a + b) b
  | 0, b => by rw [chs_zero, Nat.zero_add, chs_self]
  | a + 1, 0 => by rw [chs_zero, Nat.add_zero, chs_self]
  | a + 1, b + 1 => by
    have h1 := chs_symm (a + 1) b
    have h2 := chs_symm a (b + 1)
    have e : a + 1 + (b + 1) = (a + 1 + b) + 1 := by omega
    rw [e, chs_succ, chs_succ]
    have e3 : a + 1 + b = a + (b + 1) := by omega
    rw [h1, e3, h2]
    rw [← e3]
    omega
/-- the same over integers: 0 outside -/
def chZ (n k : Int) : Int := if k < 0 ∨ n < k then 0 else (chs n.toNat k.toNat : Nat)
theorem chZ_nat (n k : Nat) : chZ n k = (chs n k : Nat) := by
  unfold chZ
  by_cases h : n < k
  · rw [if_pos (by omega), chs_lt n k h]; rfl
  · rw [if_neg (by omega)]; simp
theorem chZ_no {n k : Int} (h : k < 0 ∨ n < k) : chZ n k = 0 := by unfold chZ; rw [if_pos h]
theorem chZ_bd (n k : Int) (h : n ≤ 40) : 0 ≤ chZ n k ∧ chZ n k ≤ 1099511627776 := by
  unfold chZ
  split
  · omega
  · have := chs_small40 n.toNat k.toNat (by omega); omega
/-- how many paths: 0 where there is no such number of steps -/
def cntOk (u d : Int) : Bool := decide (0 ≤ u) && decide (0 ≤ d) && decide (u + d ≤ 40)
def cntV (u d : Int) : Int := if cntOk u d then chZ (u + d) u else 0
theorem cntV_bd (u d : Int) : 0 ≤ cntV u d ∧ cntV u d ≤ 1099511627776 := by
  unfold cntV cntOk
  split
  · rename_i h; simp at h; exact chZ_bd _ _ (by omega)
  · omega
end Go.Proofs.Ytmfcknlpbliehab
