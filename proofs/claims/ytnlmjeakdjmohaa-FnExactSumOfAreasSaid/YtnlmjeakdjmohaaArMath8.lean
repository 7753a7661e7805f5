/- Rows of numbers as polynomials: their values at a great number tell them. Areas of good closed paths: by first parts, by steps. Plain numbers. -/
import Derived.Test.YtnlmjeakdjmohaaBalMath
namespace Go.Proofs.Ytnlmjeakdjmohaa
open Go.RowKit
set_option linter.unusedVariables false
/-- the value at q -/
def ev (q : Int) : List Int → Int
  | [] => 0
  | x :: xs => x + q * ev q xs
theorem ev_set (q v : Int) : ∀ (L : List Int) (i : Nat), i < L.length → ev q (L.set i (L.getD i 0 + v)) = ev q L + v * q ^ i
  | x :: xs, 0, _ => by
    show x + v + q * ev q xs = x + q * ev q xs + v * q ^ 0
    rw [Int.pow_zero]
    omega
  | x :: xs, i + 1, h => by
    have := ev_set q v xs i (by simpa using h)
    show x + q * ev q (xs.set i (xs.getD i 0 + v)) = x + q * ev q xs + v * q ^ (i + 1)
    rw [this, Int.mul_add, Int.pow_succ, Int.mul_left_comm q v, Int.mul_comm q (q ^ i)]
    omega
theorem ev_zeros (q : Int) : ∀ n, ev q (List.replicate n 0) = 0
  | 0 => rfl
  | n + 1 => by
    show 0 + q * ev q (List.replicate n 0) = 0
    rw [ev_zeros q n]
    omega
theorem ev_take_succ (q : Int) : ∀ (L : List Int) (j : Nat), j < L.length → ev q (L.take (j + 1)) = ev q (L.take j) + L.getD j 0 * q ^ j
  | x :: xs, 0, _ => by
    show x + q * ev q (xs.take 0) = 0 + x * q ^ 0
    rw [Int.pow_zero]
    show x + q * 0 = 0 + x * 1
    omega
  | x :: xs, j + 1, h => by
    have := ev_take_succ q xs j (by simpa using h)
    show x + q * ev q (xs.take (j + 1)) = x + q * ev q (xs.take j) + xs.getD j 0 * q ^ (j + 1)
    rw [this, Int.mul_add, Int.pow_succ, Int.mul_left_comm q (xs.getD j 0), Int.mul_comm q (q ^ j)]
    omega
/-- all entries at least 0 -/
def nnL (L : List Int) : Prop := ∀ j, 0 ≤ L.getD j 0
theorem nnL_cons {x : Int} {xs : List Int} (h : nnL (x :: xs)) : 0 ≤ x ∧ nnL xs := ⟨h 0, fun j => h (j + 1)⟩
theorem nnL_zeros (n : Nat) : nnL (List.replicate n 0) := fun j => by
  by_cases h : j < n
  · simp [List.getD_eq_getElem?_getD, h]
  · simp [List.getD_eq_getElem?_getD, h]
theorem nnL_set {L : List Int} (h : nnL L) {i : Nat} {u : Int} (hu : 0 ≤ u) : nnL (L.set i u) := fun j => by
  rw [List.getD_eq_getElem?_getD, List.getElem?_set]
  by_cases e : i = j
  · rw [if_pos e]
    split
    · exact hu
    · exact Int.le_refl _
  · rw [if_neg e, ← List.getD_eq_getElem?_getD]
    exact h j
theorem ev_nn {q : Int} (hq : 0 ≤ q) : ∀ {L : List Int}, nnL L → 0 ≤ ev q L
  | [], _ => Int.le_refl _
  | x :: xs, h => by
    have h1 := nnL_cons h
    have h2 := Int.mul_nonneg hq (ev_nn hq h1.2)
    show 0 ≤ x + q * ev q xs
    omega
/-- an entry is no greater than the sum -/
theorem ev_one_ge : ∀ {L : List Int}, nnL L → ∀ j, L.getD j 0 ≤ ev 1 L
  | [], _, j => by simp [ev]
  | x :: xs, h, 0 => by
    have h1 := nnL_cons h
    have h2 := ev_nn (q := 1) (by omega) h1.2
    show x ≤ x + 1 * ev 1 xs
    omega
  | x :: xs, h, j + 1 => by
    have h1 := nnL_cons h
    have h2 := ev_one_ge h1.2 j
    show xs.getD j 0 ≤ x + 1 * ev 1 xs
    omega
/-- rows that are told by their values at q, all entries being in 0 .. q - 1 -/
theorem ev_inj {q : Int} : ∀ {L M : List Int}, L.length = M.length → (∀ j, 0 ≤ L.getD j 0 ∧ L.getD j 0 < q) → (∀ j, 0 ≤ M.getD j 0 ∧ M.getD j 0 < q) → ev q L = ev q M → L = M
  | [], [], _, _, _, _ => rfl
  | x :: xs, y :: ys, hl, h1, h2, he => by
    have a1 : 0 ≤ x ∧ x < q := h1 0
    have a2 : 0 ≤ y ∧ y < q := h2 0
    have e : x + q * ev q xs = y + q * ev q ys := he
    have e1 : x = y := by
      have m1 : (x + q * ev q xs) % q = x := by rw [Int.add_mul_emod_self_left]; exact Int.emod_eq_of_lt a1.1 a1.2
      have m2 : (y + q * ev q ys) % q = y := by rw [Int.add_mul_emod_self_left]; exact Int.emod_eq_of_lt a2.1 a2.2
      rw [← m1, ← m2, e]
    subst e1
    have e2 : q * ev q xs = q * ev q ys := by omega
    have e3 : ev q xs = ev q ys := Int.eq_of_mul_eq_mul_left (by omega) e2
    rw [ev_inj (by simpa using hl) (fun j => h1 (j + 1)) (fun j => h2 (j + 1)) e3]
/-- the row of so many entries with this value at q -/
def dec (q : Nat) : Nat → Nat → List Int
  | 0, _ => []
  | n + 1, N => ((N % q : Nat) : Int) :: dec q n (N / q)
theorem dec_length (q : Nat) : ∀ n N, (dec q n N).length = n
  | 0, _ => rfl
  | n + 1, N => by rw [dec, List.length_cons, dec_length]
theorem dec_bd {q : Nat} (hq : 0 < q) : ∀ (n N j : Nat), 0 ≤ (dec q n N).getD j 0 ∧ (dec q n N).getD j 0 < q
  | 0, _, j => by simp [dec]; omega
  | n + 1, N, 0 => by
    have := Nat.mod_lt N hq
    show 0 ≤ ((N % q : Nat) : Int) ∧ ((N % q : Nat) : Int) < q
    omega
  | n + 1, N, j + 1 => dec_bd hq n (N / q) j
theorem dec_ev {q : Nat} (hq : 0 < q) : ∀ (n N : Nat), N < q ^ n → ev q (dec q n N) = N
  | 0, N, h => by
    have : N = 0 := by rw [Nat.pow_zero] at h; omega
    subst this
    rfl
  | n + 1, N, h => by
    have h1 : N / q < q ^ n := by
      rw [Nat.pow_succ] at h
      exact Nat.div_lt_of_lt_mul (by rw [Nat.mul_comm]; exact h)
    show ((N % q : Nat) : Int) + q * ev q (dec q n (N / q)) = N
    rw [dec_ev hq n _ h1, ← Int.natCast_mul, ← Int.natCast_add, Nat.mod_add_div]
/-! ### by first parts -/
def upd (L : List Int) (i : Nat) (v : Int) : List Int := L.set i (L.getD i 0 + v)
def arB (base : Nat) (x : Int) (ys : List Int) : Nat → List Int → List Int
  | 0, L => L
  | j + 1, L => upd (arB base x ys j L) (base + j) (x * ys.getD j 0)
def arA (base : Nat) (xs ys : List Int) : Nat → List Int → List Int
  | 0, L => L
  | j + 1, L => arB (base + j) (xs.getD j 0) ys ys.length (arA base xs ys j L)
def arF (all : List (List Int)) (k : Nat) : Nat → List Int → List Int
  | 0, L => L
  | j + 1, L => arA (2 * j + 1) (all.getD j []) (all.getD (k - 1 - j) []) (all.getD j []).length (arF all k j L)
theorem arB_len (base : Nat) (x : Int) (ys : List Int) : ∀ j L, (arB base x ys j L).length = L.length
  | 0, L => rfl
  | j + 1, L => by rw [arB, upd, List.length_set, arB_len]
theorem arA_len (base : Nat) (xs ys : List Int) : ∀ j L, (arA base xs ys j L).length = L.length
  | 0, L => rfl
  | j + 1, L => by rw [arA, arB_len, arA_len]
theorem arF_len (all : List (List Int)) (k : Nat) : ∀ j L, (arF all k j L).length = L.length
  | 0, L => rfl
  | j + 1, L => by rw [arF, arA_len, arF_len]
theorem arB_ev (q : Int) (base : Nat) (x : Int) (ys : List Int) (L : List Int) : ∀ j, j ≤ ys.length → base + j ≤ L.length → ev q (arB base x ys j L) = ev q L + x * q ^ base * ev q (ys.take j)
  | 0, _, _ => by
    show ev q L = ev q L + x * q ^ base * 0
    omega
  | j + 1, h1, h2 => by
    rw [arB, upd, ev_set q _ _ _ (by rw [arB_len]; omega), arB_ev q base x ys L j (by omega) (by omega), ev_take_succ q ys j (by omega), Int.mul_add, Int.pow_add]
    rw [show x * ys.getD j 0 * (q ^ base * q ^ j) = x * q ^ base * (ys.getD j 0 * q ^ j) by
      rw [Int.mul_assoc, Int.mul_assoc, Int.mul_left_comm (ys.getD j 0)]]
    omega
theorem arA_ev (q : Int) (base : Nat) (xs ys : List Int) (L : List Int) : ∀ j, j ≤ xs.length → base + j + ys.length ≤ L.length + 1 → ev q (arA base xs ys j L) = ev q L + q ^ base * ev q (xs.take j) * ev q ys
  | 0, _, _ => by
    show ev q L = ev q L + q ^ base * 0 * ev q ys
    rw [Int.mul_zero, Int.zero_mul]
    omega
  | j + 1, h1, h2 => by
    rw [arA, arB_ev q _ _ _ _ _ (Nat.le_refl _) (by rw [arA_len]; omega), arA_ev q base xs ys L j (by omega) (by omega), List.take_length, ev_take_succ q xs j (by omega), Int.mul_add, Int.add_mul, Int.pow_add]
    rw [show xs.getD j 0 * (q ^ base * q ^ j) = q ^ base * (xs.getD j 0 * q ^ j) by rw [Int.mul_left_comm]]
    omega
theorem arB_nn {base : Nat} {x : Int} {ys : List Int} (hx : 0 ≤ x) (hy : nnL ys) : ∀ (j : Nat) {L : List Int}, nnL L → nnL (arB base x ys j L)
  | 0, L, h => h
  | j + 1, L, h => nnL_set (arB_nn hx hy j h) (Int.add_nonneg (arB_nn hx hy j h _) (Int.mul_nonneg hx (hy j)))
theorem arA_nn {base : Nat} {xs ys : List Int} (hx : nnL xs) (hy : nnL ys) : ∀ (j : Nat) {L : List Int}, nnL L → nnL (arA base xs ys j L)
  | 0, L, h => h
  | j + 1, L, h => arB_nn (hx j) hy _ (arA_nn hx hy j h)
end Go.Proofs.Ytnlmjeakdjmohaa
