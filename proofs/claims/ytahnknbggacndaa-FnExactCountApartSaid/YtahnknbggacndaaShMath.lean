/- Shifted moments: sums with binomial numbers. -/
import Derived.Test.YtahnknbggacndaaChMath
import Derived.Test.YtahnknbggacndaaBalMath
import Derived.Test.YtahnknbggacndaaDegMath
namespace Go.Proofs.Ytahnknbggacndaa
open Go.RowKit
set_option linter.unusedVariables false
/-- the sum for n, its first t parts, from the last moment down -/
def shP (k : Int) (ms : List Int) (n : Nat) : Nat → Int
  | 0 => 0
  | t + 1 => shP k ms n t + ((chs n (n - t) : Nat) : Int) * k ^ t * ms.getD (n - t) 0
theorem shP_succ (k : Int) (ms : List Int) (n t : Nat) : shP k ms n (t + 1) = shP k ms n t + ((chs n (n - t) : Nat) : Int) * k ^ t * ms.getD (n - t) 0 := rfl
/-- the moments if k is added to all weights -/
def shL (ms : List Int) (k : Int) : List Int := fr (fun n => shP k ms n (n + 1)) ms.length
theorem abs_mul {x y : Int} {A B : Nat} (hx : -(A : Int) ≤ x ∧ x ≤ A) (hy : -(B : Int) ≤ y ∧ y ≤ B) : -((A * B : Nat) : Int) ≤ x * y ∧ x * y ≤ ((A * B : Nat) : Int) := by
  have h1 : x.natAbs ≤ A := by omega
  have h2 : y.natAbs ≤ B := by omega
  have h3 : (x * y).natAbs ≤ A * B := by rw [Int.natAbs_mul]; exact Nat.mul_le_mul h1 h2
  omega
theorem pow_abs {k : Int} {A : Nat} (hk : -(A : Int) ≤ k ∧ k ≤ A) : ∀ t : Nat, -((A ^ t : Nat) : Int) ≤ k ^ t ∧ k ^ t ≤ ((A ^ t : Nat) : Int)
  | 0 => by simp
  | t + 1 => by
    rw [Int.pow_succ, Nat.pow_succ]
    exact abs_mul (pow_abs hk t) hk
theorem pow9 {k : Int} (hk : -9 ≤ k ∧ k ≤ 9) {t : Nat} (ht : t ≤ 8) : -43046721 ≤ k ^ t ∧ k ^ t ≤ 43046721 := by
  have h1 := pow_abs (k := k) (A := 9) (by omega) t
  have h2 : (9 : Nat) ^ t ≤ 9 ^ 8 := Nat.pow_le_pow_right (by omega) ht
  have h3 : (9 : Nat) ^ 8 = 43046721 := by decide
  omega
theorem pow97 {k : Int} (hk : -9 ≤ k ∧ k ≤ 9) {t : Nat} (ht : t ≤ 7) : -4782969 ≤ k ^ t ∧ k ^ t ≤ 4782969 := by
  have h1 := pow_abs (k := k) (A := 9) (by omega) t
  have h2 : (9 : Nat) ^ t ≤ 9 ^ 7 := Nat.pow_le_pow_right (by omega) ht
  have h3 : (9 : Nat) ^ 7 = 4782969 := by decide
  omega
theorem chs7 {n i : Nat} (hn : n ≤ 7) : 0 ≤ ((chs n i : Nat) : Int) ∧ ((chs n i : Nat) : Int) ≤ 128 := by
  have h1 := chs_le n i
  have h2 : (2 : Nat) ^ n ≤ 2 ^ 7 := Nat.pow_le_pow_right (by omega) hn
  have h3 : (2 : Nat) ^ 7 = 128 := by decide
  omega
theorem sh_c {n i t : Nat} {k : Int} (hn : n ≤ 7) (hk : -9 ≤ k ∧ k ≤ 9) (ht : t ≤ 7) : -612220032 ≤ ((chs n i : Nat) : Int) * k ^ t ∧ ((chs n i : Nat) : Int) * k ^ t ≤ 612220032 := by
  have h1 := chs7 (n := n) (i := i) hn
  have h2 := pow97 hk ht
  have h3 := abs_mul (A := 128) (B := 4782969) (x := ((chs n i : Nat) : Int)) (y := k ^ t) (by omega) (by omega)
  omega
theorem sh_t {n i t : Nat} {k m : Int} (hn : n ≤ 7) (hk : -9 ≤ k ∧ k ≤ 9) (ht : t ≤ 7) (hm : -1000000000 ≤ m ∧ m ≤ 1000000000) :
    -612220032000000000 ≤ ((chs n i : Nat) : Int) * k ^ t * m ∧ ((chs n i : Nat) : Int) * k ^ t * m ≤ 612220032000000000 := by
  have h1 := sh_c (i := i) hn hk ht
  have h3 := abs_mul (A := 612220032) (B := 1000000000) (x := ((chs n i : Nat) : Int) * k ^ t) (y := m) (by omega) (by omega)
  omega
theorem sh_p {k : Int} {ms : List Int} {n : Nat} (hn : n ≤ 7) (hk : -9 ≤ k ∧ k ≤ 9) (hm : ∀ i, i ≤ n → -1000000000 ≤ ms.getD i 0 ∧ ms.getD i 0 ≤ 1000000000) : ∀ t, t ≤ n + 1 → -(612220032000000000 * (t : Int)) ≤ shP k ms n t ∧ shP k ms n t ≤ 612220032000000000 * (t : Int)
  | 0, _ => by simp [shP]
  | t + 1, ht => by
    have h1 := sh_p hn hk hm t (by omega)
    have h2 := sh_t (n := n) (i := n - t) hn hk (show t ≤ 7 by omega) (hm (n - t) (by omega))
    rw [shP_succ]
    generalize ((chs n (n - t) : Nat) : Int) * k ^ t * ms.getD (n - t) 0 = x at *
    omega
def momB (xs : List Int) : Bool := inBd 1 8 (xs.length : Nat) && allB xs (-1000000000) 1000000000
theorem momB_of {xs : List Int} (h : momB xs = true) : (1 ≤ xs.length ∧ xs.length ≤ 8) ∧ ∀ k, k < xs.length → -1000000000 ≤ xs.getD k 0 ∧ xs.getD k 0 ≤ 1000000000 := by
  unfold momB allB inBd at h
  simp only [Bool.and_eq_true, decide_eq_true_eq, List.all_eq_true] at h
  refine ⟨by omega, fun k hk => ?_⟩
  rw [List.getD_eq_getElem?_getD, List.getElem?_eq_getElem hk]
  exact h.2 _ (List.getElem_mem hk)
def shOk (ms : List Int) (k : Int) : Bool := (momB ms && inBd (-9) 9 k) && momB (shL ms k)
def shV (ms : List Int) (k : Int) : List Int := if shOk ms k = true then shL ms k else []
end Go.Proofs.Ytahnknbggacndaa
