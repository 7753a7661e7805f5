/- Pack 29 of what FnBoldPlay needs: ChMath, TchMath. -/
import Derived.Test.YthgblfldncidnaaKFnBoldPlay28
/- Binomial numbers. -/
namespace Go.Proofs.Ythgblfldncidnaa
open Go.RowKit
/-- the number of ways to choose k of n -/
def chs : Nat → Nat → Nat
  | _, 0 => 1
  | 0, _ + 1 => 0
  | n + 1, k + 1 => chs n k + chs n (k + 1)
theorem chs_zero (n : Nat) : chs n 0 = 1 := by cases n <;> rfl
theorem chs_succ (n k : Nat) : chs (n + 1) (k + 1) = chs n k + chs n (k + 1) := rfl
theorem chs_lt : ∀ (n k : Nat), n < k → chs n k = 0
  | 0, k + 1, _ => rfl
  | n + 1, k + 1, h => by rw [chs_succ, chs_lt n k (by omega), chs_lt n (k + 1) (by omega)]
theorem chs_self (n : Nat) : chs n n = 1 := by
  induction n with
  | zero => rfl
  | succ n ih => rw [chs_succ, ih, chs_lt n (n + 1) (by omega)]
theorem chs_le : ∀ (n k : Nat), chs n k ≤ 2 ^ n
  | n, 0 => by rw [chs_zero]; exact Nat.one_le_two_pow
  | 0, k + 1 => by simp [chs]
  | n + 1, k + 1 => by
    rw [chs_succ, Nat.pow_succ]
    have h1 := chs_le n k
    have h2 := chs_le n (k + 1)
    omega
theorem chs_small (n k : Nat) (h : n ≤ 60) : chs n k ≤ 1152921504606846976 := by
  have h1 := chs_le n k
  have h2 : 2 ^ n ≤ 2 ^ 60 := Nat.pow_le_pow_right (by omega) h
  omega
theorem chs_small40 (n k : Nat) (h : n ≤ 40) : chs n k ≤ 1099511627776 := by
  have h1 := chs_le n k
  have h2 : 2 ^ n ≤ 2 ^ 40 := Nat.pow_le_pow_right (by omega) h
  omega
theorem chs_pos : ∀ (n k : Nat), k ≤ n → 0 < chs n k
  | n, 0, _ => by rw [chs_zero]; omega
  | n + 1, k + 1, h => by
    rw [chs_succ]
    have := chs_pos n k (by omega)
    omega
theorem chs_absorb : ∀ (n k : Nat), (k + 1) * chs (n + 1) (k + 1) = (n + 1) * chs n k
  | 0, 0 => rfl
  | 0, k + 1 => by rw [chs_lt 1 (k + 2) (by omega), chs_lt 0 (k + 1) (by omega)]; simp
  | n + 1, 0 => by
    have h := chs_absorb n 0
    rw [chs_zero] at h ⊢
    rw [chs_succ, chs_zero]
    omega
  | n + 1, k + 1 => by
    have h1 := chs_absorb n k
    have h2 := chs_absorb n (k + 1)
    rw [chs_succ (n + 1) (k + 1)]
    have e : (k + 1 + 1) * (chs (n + 1) (k + 1) + chs (n + 1) (k + 1 + 1)) = (k + 1) * chs (n + 1) (k + 1) + chs (n + 1) (k + 1) + (k + 1 + 1) * chs (n + 1) (k + 1 + 1) := by
      rw [Nat.mul_add, Nat.succ_mul (k + 1)]
    rw [e, h1, h2]
    have e2 : (n + 1 + 1) * chs (n + 1) (k + 1) = (n + 1) * chs (n + 1) (k + 1) + chs (n + 1) (k + 1) := Nat.succ_mul _ _
    rw [e2, chs_succ n k, Nat.mul_add]
    omega
theorem chs_mul (d i : Nat) : chs (d + i) i * (d + (i + 1)) / (i + 1) = chs (d + (i + 1)) (i + 1) := by
  have h := chs_absorb (d + i) i
  have e : chs (d + i) i * (d + (i + 1)) = (i + 1) * chs (d + i + 1) (i + 1) := by rw [h, Nat.mul_comm]; rfl
  rw [e, Nat.mul_div_cancel_left _ (by omega)]
  rfl
theorem chs_symm : ∀ (a b : Nat), chs (a + b) a = chs (a + b) b
  | 0, b => by rw [chs_zero, Nat.zero_add, chs_self]
  | a + 1, 0 => by rw [chs_zero, Nat.add_zero, chs_self]
  | a + 1, b + 1 => by
    have h1 := chs_symm (a + 1) b
    have h2 := chs_symm a (b + 1)
    have e : a + 1 + (b + 1) = (a + 1 + b) + 1 := by omega
    rw [e, chs_succ, chs_succ]
    have e3 : a + 1 + b = a + (b + 1) := by omega
    rw [h1, e3, h2]
    rw [← e3]
    omega
/-- the same over integers: 0 outside -/
def chZ (n k : Int) : Int := if k < 0 ∨ n < k then 0 else (chs n.toNat k.toNat : Nat)
theorem chZ_nat (n k : Nat) : chZ n k = (chs n k : Nat) := by
  unfold chZ
  by_cases h : n < k
  · rw [if_pos (by omega), chs_lt n k h]; rfl
  · rw [if_neg (by omega)]; simp
theorem chZ_no {n k : Int} (h : k < 0 ∨ n < k) : chZ n k = 0 := by unfold chZ; rw [if_pos h]
theorem chZ_bd (n k : Int) (h : n ≤ 40) : 0 ≤ chZ n k ∧ chZ n k ≤ 1099511627776 := by
  unfold chZ
  split
  · omega
  · have := chs_small40 n.toNat k.toNat (by omega); omega
/-- how many paths: 0 where there is no such number of steps -/
def cntOk (u d : Int) : Bool := decide (0 ≤ u) && decide (0 ≤ d) && decide (u + d ≤ 40)
def cntV (u d : Int) : Int := if cntOk u d then chZ (u + d) u else 0
theorem cntV_bd (u d : Int) : 0 ≤ cntV u d ∧ cntV u d ≤ 1099511627776 := by
  unfold cntV cntOk
  split
  · rename_i h; simp at h; exact chZ_bd _ _ (by omega)
  · omega
end Go.Proofs.Ythgblfldncidnaa

/- Heights that are touched, counts by reflections: plain numbers. -/
namespace Go.Proofs.Ythgblfldncidnaa
open Go.RowKit
set_option linter.unusedVariables false
/-- the least number of steps, from k on and at most n more, behind which the height is h, or -1 -/
def faGo (s : ByteArray) (h : Int) : Nat → Nat → Int
  | 0, _ => -1
  | n + 1, k => if hAt s k = h then k else faGo s h n (k + 1)
def faZ (s : ByteArray) (h : Int) : Int := faGo s h (s.size + 1) 0
theorem faGo_bd (s : ByteArray) (h : Int) : ∀ n k, faGo s h n k = -1 ∨ ((k : Int) ≤ faGo s h n k ∧ faGo s h n k < k + n)
  | 0, k => .inl rfl
  | n + 1, k => by
    rw [faGo]
    split
    · exact .inr (by omega)
    · rcases faGo_bd s h n (k + 1) with e | e
      · exact .inl e
      · exact .inr (by omega)
theorem faZ_bd (s : ByteArray) (h : Int) : -1 ≤ faZ s h ∧ faZ s h ≤ s.size := by
  have := faGo_bd s h (s.size + 1) 0
  unfold faZ
  omega
/-- the greatest one among the first k -/
def laTo (s : ByteArray) (h : Int) : Nat → Int
  | 0 => -1
  | k + 1 => if hAt s k = h then k else laTo s h k
def laZ (s : ByteArray) (h : Int) : Int := laTo s h (s.size + 1)
theorem laTo_bd (s : ByteArray) (h : Int) : ∀ k, -1 ≤ laTo s h k ∧ laTo s h k < k
  | 0 => by simp [laTo]
  | k + 1 => by
    have := laTo_bd s h k
    rw [laTo]
    split <;> omega
theorem laTo_yes {s : ByteArray} {h : Int} {k : Nat} (e : (hAt s k == h) = true) : laTo s h (k + 1) = k := by rw [laTo, if_pos (by simpa using e)]
theorem laTo_no {s : ByteArray} {h : Int} {k : Nat} (e : (hAt s k == h) = false) : laTo s h (k + 1) = laTo s h k := by rw [laTo, if_neg (by simpa using e)]
/-- how many paths of n steps lead to h -/
def toZ (n h : Int) : Int := if (n + h) % 2 ≠ 0 ∨ h < -n ∨ n < h then 0 else chZ n ((n + h) / 2)
theorem toZ_bd (n h : Int) (hn : n ≤ 40) : 0 ≤ toZ n h ∧ toZ n h ≤ 1099511627776 := by
  unfold toZ
  split
  · omega
  · exact chZ_bd _ _ hn
def tchZ (n e h : Int) : Int := if inB h (if 0 < e then 0 else e) (if e < 0 then 0 else e) = true then toZ n e else toZ n (2 * h - e)
theorem tchZ_bd (n e h : Int) (hn : n ≤ 40) : 0 ≤ tchZ n e h ∧ tchZ n e h ≤ 1099511627776 := by
  unfold tchZ
  generalize inB h (if 0 < e then 0 else e) (if e < 0 then 0 else e) = b
  cases b
  · rw [if_neg (by simp)]; exact toZ_bd _ _ hn
  · rw [if_pos rfl]; exact toZ_bd _ _ hn
/-- the sum of the first j terms, from k = -n on -/
def btTo (n e lo hi : Int) : Nat → Int
  | 0 => 0
  | j + 1 => btTo n e lo hi j + (toZ n (e + 2 * ((j : Int) - n) * (hi - lo + 2)) - toZ n (2 * (hi + 1) - e + 2 * ((j : Int) - n) * (hi - lo + 2)))
theorem btTo_bd (n e lo hi : Int) (hn : n ≤ 40) : ∀ j : Nat, -(1099511627776 * (j : Int)) ≤ btTo n e lo hi j ∧ btTo n e lo hi j ≤ 1099511627776 * j
  | 0 => by simp [btTo]
  | j + 1 => by
    have h1 := btTo_bd n e lo hi hn j
    have h2 := toZ_bd n (e + 2 * ((j : Int) - n) * (hi - lo + 2)) hn
    have h3 := toZ_bd n (2 * (hi + 1) - e + 2 * ((j : Int) - n) * (hi - lo + 2)) hn
    rw [btTo]
    omega
def btZ (n e lo hi : Int) : Int := if inB e lo hi = true then btTo n e lo hi (2 * n + 1).toNat else 0
theorem btZ_bd (n e lo hi : Int) (hn : 0 ≤ n ∧ n ≤ 40) : -(89060441849856) ≤ btZ n e lo hi ∧ btZ n e lo hi ≤ 89060441849856 := by
  unfold btZ
  split
  · have := btTo_bd n e lo hi hn.2 (2 * n + 1).toNat
    omega
  · omega
end Go.Proofs.Ythgblfldncidnaa
