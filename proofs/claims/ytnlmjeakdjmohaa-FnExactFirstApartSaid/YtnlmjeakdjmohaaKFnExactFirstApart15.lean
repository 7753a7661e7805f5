/- Pack 15 of what FnExactFirstApart needs: ChMath, TxMath. -/
import Derived.Test.YtnlmjeakdjmohaaKFnExactFirstApart14
/- Binomial numbers. -/
namespace Go.Proofs.Ytnlmjeakdjmohaa
open Go.RowKit
/-- the number of ways to choose k of n -/
def chs : Nat → Nat → Nat
  | _, 0 => 1
  | 0, _ + 1 => 0
  | n + 1, k + 1 => chs n k + chs n (k + 1)
theorem chs_zero (n : Nat) : chs n 0 = 1 := by cases n <;> rfl
theorem chs_succ (n k : Nat) : chs (n + 1) (k + 1) = chs n k + chs n (k + 1) := rfl
theorem chs_lt : ∀ (n k : Nat), n < k → chs n k = 0
  | 0, k + 1, _ => rfl
  | n + 1, k + 1, h => by rw [chs_succ, chs_lt n k (by omega), chs_lt n (k + 1) (by omega)]
theorem chs_self (n : Nat) : chs n n = 1 := by
  induction n with
  | zero => rfl
  | succ n ih => rw [chs_succ, ih, chs_lt n (n + 1) (by omega)]
theorem chs_le : ∀ (n k : Nat), chs n k ≤ 2 ^ n
  | n, 0 => by rw [chs_zero]; exact Nat.one_le_two_pow
  | 0, k + 1 => by simp [chs]
  | n + 1, k + 1 => by
    rw [chs_succ, Nat.pow_succ]
    have h1 := chs_le n k
    have h2 := chs_le n (k + 1)
    omega
theorem chs_small (n k : Nat) (h : n ≤ 60) : chs n k ≤ 1152921504606846976 := by
  have h1 := chs_le n k
  have h2 : 2 ^ n ≤ 2 ^ 60 := Nat.pow_le_pow_right (by omega) h
  omega
theorem chs_small40 (n k : Nat) (h : n ≤ 40) : chs n k ≤ 1099511627776 := by
  have h1 := chs_le n k
  have h2 : 2 ^ n ≤ 2 ^ 40 := Nat.pow_le_pow_right (by omega) h
  omega
theorem chs_pos : ∀ (n k : Nat), k ≤ n → 0 < chs n k
  | n, 0, _ => by rw [chs_zero]; omega
  | n + 1, k + 1, h => by
    rw [chs_succ]
    have := chs_pos n k (by omega)
    omega
theorem chs_absorb : ∀ (n k : Nat), (k + 1) * chs (n + 1) (k + 1) = (n + 1) * chs n k
  | 0, 0 => rfl
  | 0, k + 1 => by rw [chs_lt 1 (k + 2) (by omega), chs_lt 0 (k + 1) (by omega)]; simp
  | n + 1, 0 => by
    have h := chs_absorb n 0
    rw [chs_zero] at h ⊢
    rw [chs_succ, chs_zero]
    omega
  | n + 1, k + 1 => by
    have h1 := chs_absorb n k
    have h2 := chs_absorb n (k + 1)
    rw [chs_succ (n + 1) (k + 1)]
    have e : (k + 1 + 1) * (chs (n + 1) (k + 1) + chs (n + 1) (k + 1 + 1)) = (k + 1) * chs (n + 1) (k + 1) + chs (n + 1) (k + 1) + (k + 1 + 1) * chs (n + 1) (k + 1 + 1) := by
      rw [Nat.mul_add, Nat.succ_mul (k + 1)]
    rw [e, h1, h2]
    have e2 : (n + 1 + 1) * chs (n + 1) (k + 1) = (n + 1) * chs (n + 1) (k + 1) + chs (n + 1) (k + 1) := Nat.succ_mul _ _
    rw [e2, chs_succ n k, Nat.mul_add]
    omega
theorem chs_mul (d i : Nat) : chs (d + i) i * (d + (i + 1)) / (i + 1) = chs (d + (i + 1)) (i + 1) := by
  have h := chs_absorb (d + i) i
  have e : chs (d + i) i * (d + (i + 1)) = (i + 1) * chs (d + i + 1) (i + 1) := by rw [h, Nat.mul_comm]; rfl
  rw [e, Nat.mul_div_cancel_left _ (by omega)]
  rfl
theorem chs_symm : ∀ (a b : Nat), chs (a + b) a = chs (a + b) b
  | 0, b => by rw [chs_zero, Nat.zero_add, chs_self]
  | a + 1, 0 => by rw [chs_zero, Nat.add_zero, chs_self]
  | a + 1, b + 1 => by
    have h1 := chs_symm (a + 1) b
    have h2 := chs_symm a (b + 1)
    have e : a + 1 + (b + 1) = (a + 1 + b) + 1 := by omega
    rw [e, chs_succ, chs_succ]
    have e3 : a + 1 + b = a + (b + 1) := by omega
    rw [h1, e3, h2]
    rw [← e3]
    omega
/-- the same over integers: 0 outside -/
def chZ (n k : Int) : Int := if k < 0 ∨ n < k then 0 else (chs n.toNat k.toNat : Nat)
theorem chZ_nat (n k : Nat) : chZ n k = (chs n k : Nat) := by
  unfold chZ
  by_cases h : n < k
  · rw [if_pos (by omega), chs_lt n k h]; rfl
  · rw [if_neg (by omega)]; simp
theorem chZ_no {n k : Int} (h : k < 0 ∨ n < k) : chZ n k = 0 := by unfold chZ; rw [if_pos h]
theorem chZ_bd (n k : Int) (h : n ≤ 40) : 0 ≤ chZ n k ∧ chZ n k ≤ 1099511627776 := by
  unfold chZ
  split
  · omega
  · have := chs_small40 n.toNat k.toNat (by omega); omega
/-- how many paths: 0 where there is no such number of steps -/
def cntOk (u d : Int) : Bool := decide (0 ≤ u) && decide (0 ≤ d) && decide (u + d ≤ 40)
def cntV (u d : Int) : Int := if cntOk u d then chZ (u + d) u else 0
theorem cntV_bd (u d : Int) : 0 ≤ cntV u d ∧ cntV u d ≤ 1099511627776 := by
  unfold cntV cntOk
  split
  · rename_i h; simp at h; exact chZ_bd _ _ (by omega)
  · omega
end Go.Proofs.Ytnlmjeakdjmohaa

/- All texts of so many steps to the east and to the north; how many there are; take. -/
namespace Go.Proofs.Ytnlmjeakdjmohaa
open Go.RowKit
set_option linter.unusedVariables false
def tx1 (c : UInt8) (s : ByteArray) : ByteArray := (⟨#[c]⟩ : ByteArray) ++ s
def txT (p : List UInt8) : ByteArray := ⟨p.toArray⟩
def txM (L : List (List UInt8)) : List ByteArray := L.map txT
theorem txT_cons (c : UInt8) (p : List UInt8) : txT (c :: p) = tx1 c (txT p) := by
  apply ByteArray.ext
  apply Array.toList_inj.1
  simp [txT, tx1]
theorem txM_cons (c : UInt8) (L : List (List UInt8)) : txM (L.map (List.cons c)) = (txM L).map (tx1 c) := by
  unfold txM
  rw [List.map_map, List.map_map]
  exact List.map_congr_left fun p _ => txT_cons c p
theorem txM_app (L M : List (List UInt8)) : txM (L ++ M) = txM L ++ txM M := by unfold txM; rw [List.map_append]
theorem txT_size (p : List UInt8) : (txT p).size = p.length := by show p.toArray.size = _; simp
/-- texts -/
def txF : Nat → Int → Int → List (List UInt8)
  | 0, _, _ => []
  | f + 1, x, y => if x < 0 ∨ y < 0 then [] else if x + y = 0 then [[]] else (txF f (x - 1) y).map (List.cons 69) ++ (txF f x (y - 1)).map (List.cons 78)
def noT : Int → Int → Bool := fun _ _ => false
theorem spF_tx (u v : Int) : ∀ (f : Nat) (x y : Int), spF noT u v f x y = txF f (u - x) (v - y)
  | 0, _, _ => rfl
  | f + 1, x, y => by
    by_cases h : u < x ∨ v < y
    · rw [spF_no (by rcases h with h | h <;> simp [h]), txF, if_pos (by omega)]
    · by_cases h2 : x = u ∧ y = v
      · obtain ⟨rfl, rfl⟩ := h2
        rw [spF_end (by rfl), txF, if_neg (by omega), if_pos (by omega)]
      · rw [spF_step (by simp [noT]; omega) h2, txF, if_neg (by omega), if_neg (by omega), spF_tx u v f, spF_tx u v f, show u - (x + 1) = u - x - 1 by omega, show v - (y + 1) = v - y - 1 by omega]
theorem txF_no {f : Nat} {x y : Int} (h : x < 0 ∨ y < 0) : txF f x y = [] := by
  cases f with
  | zero => rfl
  | succ f => rw [txF, if_pos h]
theorem txF_len : ∀ (f a b : Nat), a + b < f → (txF f a b).length = chs (a + b) a
  | 0, a, b, h => by omega
  | f + 1, a, b, h => by
    rw [txF, if_neg (by omega)]
    by_cases h2 : a + b = 0
    · obtain rfl : a = 0 := by omega
      obtain rfl : b = 0 := by omega
      rfl
    · rw [if_neg (by omega), List.length_append, List.length_map, List.length_map]
      cases a with
      | zero =>
        rw [txF_no (by omega)]
        cases b with
        | zero => omega
        | succ b =>
          rw [show ((b + 1 : Nat) : Int) - 1 = (b : Int) by omega, txF_len f 0 b (by omega), chs_zero, chs_zero]
          rfl
      | succ a =>
        rw [show ((a + 1 : Nat) : Int) - 1 = (a : Int) by omega, txF_len f a b (by omega)]
        cases b with
        | zero =>
          rw [txF_no (x := ((a + 1 : Nat) : Int)) (by omega), Nat.add_zero, Nat.add_zero, chs_self, chs_self]
          rfl
        | succ b =>
          rw [show ((b + 1 : Nat) : Int) - 1 = (b : Int) by omega, txF_len f (a + 1) b (by omega), show a + 1 + (b + 1) = (a + b + 1) + 1 by omega, chs_succ, show a + 1 + b = a + b + 1 by omega, show a + (b + 1) = a + b + 1 by omega]
theorem txF_fuel : ∀ (f g : Nat) (x y : Int), x + y < f → x + y < g → txF f x y = txF g x y
  | 0, 0, _, _, _, _ => rfl
  | 0, g + 1, x, y, h, _ => by rw [txF_no (f := g + 1) (by omega)]; rfl
  | f + 1, 0, x, y, _, h => by rw [txF_no (f := f + 1) (by omega)]; rfl
  | f + 1, g + 1, x, y, h1, h2 => by
    by_cases h : x < 0 ∨ y < 0
    · rw [txF_no h, txF_no h]
    · rw [txF, txF, if_neg h, if_neg h]
      split
      · rfl
      · rw [txF_fuel f g _ _ (by omega) (by omega), txF_fuel f g _ _ (by omega) (by omega)]
theorem spF_fuel (tk : Int → Int → Bool) (u v : Int) : ∀ (f g : Nat) (x y : Int), (u - x) + (v - y) < f → (u - x) + (v - y) < g → spF tk u v f x y = spF tk u v g x y
  | 0, 0, _, _, _, _ => rfl
  | 0, g + 1, x, y, h, _ => by rw [spF_no (f := g + 1) (by omega)]; rfl
  | f + 1, 0, x, y, _, h => by rw [spF_no (f := f + 1) (by omega)]; rfl
  | f + 1, g + 1, x, y, h1, h2 => by
    rw [spF, spF]
    split
    · rfl
    · split
      · rfl
      · rw [spF_fuel tk u v f g _ _ (by omega) (by omega), spF_fuel tk u v f g _ _ (by omega) (by omega)]
/-- the first so many of two lists -/
theorem take_two {α : Type} (A B : List α) (m : Nat) : (A ++ B).take m = A.take m ++ B.take (m - (A.take m).length) := by
  rw [List.take_append, List.length_take]
  congr 2
  omega
end Go.Proofs.Ytnlmjeakdjmohaa
