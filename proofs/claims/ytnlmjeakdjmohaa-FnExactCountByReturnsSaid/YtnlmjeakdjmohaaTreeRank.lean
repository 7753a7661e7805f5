/- RankOfTree. -/
import Derived.Test.YtnlmjeakdjmohaaDeg
import Derived.Test.YtnlmjeakdjmohaaTreeNum
namespace Go.Proofs.Ytnlmjeakdjmohaa
open Go.RowKit
set_option linter.unusedVariables false
theorem numN_bd (n t : Nat) (hn : n ≤ 16) : numN n t ≤ 17592186044416 := by
  unfold numN
  split
  · split <;> omega
  · split
    · omega
    · have := chs_small40 (2 * n - t) n (by omega)
      have h2 : chs (2 * n - t) n * t ≤ 1099511627776 * 16 := Nat.mul_le_mul this (by omega)
      exact Nat.le_trans (Nat.div_le_self _ _) h2
def rkIn (left T : Nat) : Nat → Nat
  | 0 => 0
  | k + 1 => rkIn left T k + numN left (T - 1 + k)
theorem rkIn_bd (left T : Nat) (hl : left ≤ 16) : ∀ k, rkIn left T k ≤ 17592186044416 * k
  | 0 => Nat.le_refl _
  | k + 1 => by
    have h1 := rkIn_bd left T hl k
    have h2 := numN_bd left (T - 1 + k) hl
    rw [rkIn]
    omega
/-- how many trees wait before the k-th -/
def trT (xs : List Int) (k : Nat) : Nat := (1 + sumT xs k - (k : Int)).toNat
def rkT (xs : List Int) : Nat → Nat
  | 0 => 0
  | k + 1 => rkT xs k + rkIn (xs.length - k - 1) (trT xs k) (xs.getD k 0).toNat
theorem rkT_bd {xs : List Int} (h : degB xs = true) : ∀ k, k ≤ xs.length → rkT xs k ≤ 17592186044416 * 16 * k
  | 0, _ => Nat.le_refl _
  | k + 1, hk => by
    have h1 := rkT_bd h k (by omega)
    have h2 := (degB_of h).2 k (by omega)
    have h3 := (degB_of h).1
    have h4 := rkIn_bd (xs.length - k - 1) (trT xs k) (by omega) (xs.getD k 0).toNat
    have h5 : (xs.getD k 0).toNat ≤ 16 := by omega
    have h6 := Nat.mul_le_mul_left 17592186044416 h5
    rw [rkT]
    omega
theorem upB_at {xs : List Int} {r : Int} : ∀ m, upB xs r m = true → ∀ k, k < m → k + 1 < xs.length → -r < sumT xs (k + 1) - ((k + 1 : Nat) : Int)
  | 0, _, k, hk, _ => absurd hk (by omega)
  | m + 1, h, k, hk, hl => by
    rw [upB, Bool.and_eq_true] at h
    by_cases e : k = m
    · subst e
      have h2 := h.2
      rw [Bool.not_eq_true', Bool.and_eq_false_iff, decide_eq_false_iff_not, decide_eq_false_iff_not] at h2
      omega
    · exact upB_at m h.1 k (by omega) hl
theorem trT_pos {xs : List Int} (hf : forB xs = true) (he : exc xs = 1) (k : Nat) (hk : k < xs.length) : 1 ≤ 1 + sumT xs k - (k : Int) := by
  unfold forB at hf
  rw [Bool.and_eq_true, he] at hf
  match k with
  | 0 => rw [sumT_0]; omega
  | k + 1 =>
    have := upB_at xs.length hf.2 k (by omega) hk
    omega
def rtOk (xs : List Int) : Bool := forV xs && decide (exc xs = 1)
def rtV (xs : List Int) : Int := if rtOk xs then (rkT xs xs.length : Nat) else 0
end Go.Proofs.Ytnlmjeakdjmohaa
