/- Pack 13 of what FnExactRankOrdered needs: DelMath, KcMath. -/
import Derived.Test.YtmfcknlpbliehaaDoorKFnExactRankOrdered12
/- Ways in three directions, and those below the line, by recurrences. -/
namespace Go.Proofs.YtmfcknlpbliehaaDoor
open Go.RowKit
set_option linter.unusedVariables false
/-- the next row: each value is the sum of three -/
def delN (f : Nat → Nat) : Nat → Nat
  | 0 => 1
  | x + 1 => f (x + 1) + delN f x + f x
def del : Nat → Nat → Nat
  | 0 => fun _ => 1
  | y + 1 => delN (del y)
theorem del_head : ∀ y, del y 0 = 1
  | 0 => rfl
  | y + 1 => rfl
theorem del_step (y x : Nat) : del (y + 1) (x + 1) = del y (x + 1) + del (y + 1) x + del y x := rfl
theorem del_le : ∀ y x, del y x ≤ 3 ^ (y + x)
  | 0, x => Nat.one_le_pow _ _ (by omega)
  | y + 1, 0 => by rw [del_head]; exact Nat.one_le_pow _ _ (by omega)
  | y + 1, x + 1 => by
    have h1 := del_le y (x + 1)
    have h2 := del_le (y + 1) x
    have h3 := del_le y x
    have e1 : 3 ^ (y + (x + 1)) = 3 * 3 ^ (y + x) := by rw [show y + (x + 1) = (y + x) + 1 by omega, Nat.pow_succ, Nat.mul_comm]
    have e2 : 3 ^ (y + 1 + x) = 3 * 3 ^ (y + x) := by rw [show y + 1 + x = (y + x) + 1 by omega, Nat.pow_succ, Nat.mul_comm]
    have e3 : 3 ^ (y + 1 + (x + 1)) = 3 * (3 * 3 ^ (y + x)) := by rw [show y + 1 + (x + 1) = (y + x) + 1 + 1 by omega, Nat.pow_succ, Nat.pow_succ]; omega
    rw [del_step, e3]
    omega
theorem del_small {y x : Nat} (hy : y ≤ 12) (hx : x ≤ 12) : del y x ≤ 282429536481 := by
  have h1 := del_le y x
  have h2 : 3 ^ (y + x) ≤ 3 ^ 24 := Nat.pow_le_pow_right (by omega) (by omega)
  have h3 : (3 : Nat) ^ 24 = 282429536481 := by decide
  omega
/-- the row while it is made: the first x places are those of the next row -/
def delF (y x j : Nat) : Int := if j < x then (del (y + 1) j : Nat) else (del y j : Nat)
theorem fr_set (f g : Nat → Int) (n k : Nat) (h : ∀ j, j < n → j ≠ k → f j = g j) : (fr f n).set k (g k) = fr g n := by
  apply List.ext_getElem
  · simp [fr]
  · intro i h1 h2
    have hi : i < n := by simpa [fr] using h2
    rw [List.getElem_set]
    by_cases e : k = i
    · subst e; simp [fr]
    · rw [if_neg e]; simpa [fr] using h i hi (fun x => e x.symm)
theorem fr_congr {f g : Nat → Int} {n : Nat} (h : ∀ j, j < n → f j = g j) : fr f n = fr g n := by
  unfold fr
  exact List.map_congr_left (fun j hj => h j (List.mem_range.1 hj))
theorem delF_one (y m : Nat) : fr (fun j => ((del y j : Nat) : Int)) (m + 1) = fr (delF y 1) (m + 1) := fr_congr fun j _ => by
  unfold delF
  split
  · rw [show j = 0 by omega, del_head, del_head]
  · rfl
theorem delF_all (y m : Nat) : fr (delF y (m + 1)) (m + 1) = fr (fun j => ((del (y + 1) j : Nat) : Int)) (m + 1) := fr_congr fun j hj => by
  unfold delF
  rw [if_pos hj]
theorem delF_set (y p m : Nat) : (fr (delF y (p + 1)) (m + 1)).set (p + 1) ((del (y + 1) (p + 1) : Nat) : Int) = fr (delF y (p + 1 + 1)) (m + 1) := by
  have := fr_set (delF y (p + 1)) (delF y (p + 1 + 1)) (m + 1) (p + 1) (fun j hj hne => by
    unfold delF
    by_cases e : j < p + 1
    · rw [if_pos e, if_pos (by omega)]
    · rw [if_neg e, if_neg (by omega)])
  rw [← this]
  congr 1
  unfold delF
  rw [if_pos (by omega)]
def delOk (a b : Int) : Bool := (decide (0 ≤ a) && decide (a ≤ 12)) && (decide (0 ≤ b) && decide (b ≤ 12))
def delV (a b : Int) : Int := if delOk a b = true then ((del b.toNat a.toNat : Nat) : Int) else 0
/-! ### below the line -/
def schN (f : Nat → Nat) (y : Nat) : Nat → Nat
  | 0 => 0
  | x + 1 => if x + 1 < y then 0 else f (x + 1) + f x + schN f y x
def sch : Nat → Nat → Nat
  | 0 => fun _ => 1
  | y + 1 => schN (sch y) (y + 1)
theorem sch_step (y x : Nat) : sch (y + 1) (x + 1) = if x < y then 0 else sch y (x + 1) + sch y x + sch (y + 1) x := by
  show (if x + 1 < y + 1 then 0 else _) = _
  by_cases h : x < y
  · rw [if_pos h, if_pos (by omega)]
  · rw [if_neg h, if_neg (by omega)]; rfl
theorem sch_low : ∀ y x, x < y → sch y x = 0
  | y + 1, 0, _ => rfl
  | y + 1, x + 1, h => by rw [sch_step, if_pos (by omega)]
theorem sch_le : ∀ y x, sch y x ≤ 3 ^ (y + x)
  | 0, x => Nat.one_le_pow _ _ (by omega)
  | y + 1, 0 => by rw [sch_low _ _ (by omega)]; exact Nat.zero_le _
  | y + 1, x + 1 => by
    have h1 := sch_le y (x + 1)
    have h2 := sch_le (y + 1) x
    have h3 := sch_le y x
    have e1 : 3 ^ (y + (x + 1)) = 3 * 3 ^ (y + x) := by rw [show y + (x + 1) = (y + x) + 1 by omega, Nat.pow_succ, Nat.mul_comm]
    have e2 : 3 ^ (y + 1 + x) = 3 * 3 ^ (y + x) := by rw [show y + 1 + x = (y + x) + 1 by omega, Nat.pow_succ, Nat.mul_comm]
    have e3 : 3 ^ (y + 1 + (x + 1)) = 3 * (3 * 3 ^ (y + x)) := by rw [show y + 1 + (x + 1) = (y + x) + 1 + 1 by omega, Nat.pow_succ, Nat.pow_succ]; omega
    rw [sch_step, e3]
    split <;> omega
theorem sch_small {y x : Nat} (hy : y ≤ 12) (hx : x ≤ 12) : sch y x ≤ 282429536481 := by
  have h1 := sch_le y x
  have h2 : 3 ^ (y + x) ≤ 3 ^ 24 := Nat.pow_le_pow_right (by omega) (by omega)
  have h3 : (3 : Nat) ^ 24 = 282429536481 := by decide
  omega
/-- the next row while it is made: the places below x are done -/
def schF (y x j : Nat) : Int := if j < x then (sch (y + 1) j : Nat) else 0
theorem schF_start (y n : Nat) : List.replicate (n + 1) (0 : Int) = fr (schF y (y + 1)) (n + 1) := by
  apply List.ext_getElem
  · simp [fr]
  · intro i h1 h2
    simp only [fr, List.getElem_replicate, List.getElem_map, List.getElem_range, schF]
    split
    · rw [sch_low _ _ (by omega)]; rfl
    · rfl
theorem schF_all (y n : Nat) : fr (schF y (n + 1)) (n + 1) = fr (fun j => ((sch (y + 1) j : Nat) : Int)) (n + 1) := fr_congr fun j hj => by
  unfold schF
  rw [if_pos hj]
theorem schF_set (y p n : Nat) (u : Int) : ((fr (schF y (p + 1)) (n + 1)).set (p + 1) u).set (p + 1) ((sch (y + 1) (p + 1) : Nat) : Int) = fr (schF y (p + 1 + 1)) (n + 1) := by
  rw [List.set_set]
  have := fr_set (schF y (p + 1)) (schF y (p + 1 + 1)) (n + 1) (p + 1) (fun j hj hne => by
    unfold schF
    by_cases e : j < p + 1
    · rw [if_pos e, if_pos (by omega)]
    · rw [if_neg e, if_neg (by omega)])
  rw [← this]
  congr 1
  unfold schF
  rw [if_pos (by omega)]
def schOk (a : Int) : Bool := decide (0 ≤ a) && decide (a ≤ 12)
def schV (a : Int) : Int := if schOk a = true then ((sch a.toNat a.toNat : Nat) : Int) else 0
end Go.Proofs.YtmfcknlpbliehaaDoor

/- Numbers of mixed paths with colours, by last steps. -/
namespace Go.Proofs.YtmfcknlpbliehaaDoor
open Go.RowKit
set_option linter.unusedVariables false
/-- ways of k steps to the height h -/
def kc (u f d : Nat) (fl : Bool) : Nat → Nat → Nat
  | 0, h => if h = 0 then 1 else 0
  | k + 1, 0 => d * kc u f d fl k 1 + (if fl = true then f * kc u f d fl k 0 else 0)
  | k + 1, h + 1 => u * kc u f d fl k h + d * kc u f d fl k (h + 2) + f * kc u f d fl k (h + 1)
theorem kc_high (u f d : Nat) (fl : Bool) : ∀ k h, k < h → kc u f d fl k h = 0
  | 0, h, hh => by unfold kc; rw [if_neg (by omega)]
  | k + 1, 0, hh => by omega
  | k + 1, h + 1, hh => by rw [kc, kc_high u f d fl k h (by omega), kc_high u f d fl k (h + 2) (by omega), kc_high u f d fl k (h + 1) (by omega)]; simp
theorem kc_le {u f d : Nat} {fl : Bool} (hu : u ≤ 9) (hf : f ≤ 9) (hd : d ≤ 9) : ∀ k h, kc u f d fl k h ≤ 27 ^ k
  | 0, h => by unfold kc; split <;> simp
  | k + 1, 0 => by
    have h1 := Nat.mul_le_mul hd (kc_le (fl := fl) hu hf hd k 1)
    have h2 := Nat.mul_le_mul hf (kc_le (fl := fl) hu hf hd k 0)
    rw [kc, Nat.pow_succ]
    split <;> omega
  | k + 1, h + 1 => by
    have h1 := Nat.mul_le_mul hu (kc_le (fl := fl) hu hf hd k h)
    have h2 := Nat.mul_le_mul hd (kc_le (fl := fl) hu hf hd k (h + 2))
    have h3 := Nat.mul_le_mul hf (kc_le (fl := fl) hu hf hd k (h + 1))
    rw [kc, Nat.pow_succ]
    omega
theorem kc_small {u f d : Nat} {fl : Bool} (hu : u ≤ 9) (hf : f ≤ 9) (hd : d ≤ 9) {k : Nat} (hk : k ≤ 12) (h : Nat) : kc u f d fl k h ≤ 150094635296999121 := by
  have h1 := kc_le (fl := fl) hu hf hd k h
  have h2 : 27 ^ k ≤ 27 ^ 12 := Nat.pow_le_pow_right (by omega) hk
  have h3 : (27 : Nat) ^ 12 = 150094635296999121 := by decide
  omega
/-- the row of k + 1 when the heights below j of the row of k have been looked at -/
def kcP (u f d : Nat) (fl : Bool) (k j i : Nat) : Int :=
  (((if 1 ≤ i ∧ i ≤ j then u * kc u f d fl k (i - 1) else 0) + (if i + 1 < j then d * kc u f d fl k (i + 1) else 0) + (if i < j ∧ (0 < i ∨ fl = true) then f * kc u f d fl k i else 0) : Nat) : Int)
theorem kcP_zero (u f d : Nat) (fl : Bool) (k n : Nat) : List.replicate n (0 : Int) = fr (kcP u f d fl k 0) n := by
  apply List.ext_getElem
  · simp [fr]
  · intro i h1 h2
    simp only [fr, List.getElem_replicate, List.getElem_map, List.getElem_range, kcP]
    rw [if_neg (by omega), if_neg (by omega), if_neg (by omega)]
    rfl
theorem kcP_all (u f d : Nat) (fl : Bool) (k i : Nat) : kcP u f d fl k (k + 1) i = ((kc u f d fl (k + 1) i : Nat) : Int) := by
  unfold kcP
  congr 1
  cases i with
  | zero =>
    rw [kc, if_neg (by omega), Nat.zero_add]
    congr 1
    · by_cases h : 0 + 1 < k + 1
      · rw [if_pos h]
      · rw [if_neg h, kc_high _ _ _ _ _ _ (by omega), Nat.mul_zero]
    · cases fl
      · rw [if_neg (by simp), if_neg (by simp)]
      · rw [if_pos (by simp), if_pos rfl]
  | succ i =>
    rw [kc]
    congr 1
    · congr 1
      · by_cases h : i + 1 ≤ k + 1
        · rw [if_pos (by omega)]; rfl
        · rw [if_neg (by omega), kc_high _ _ _ _ _ _ (by omega), Nat.mul_zero]
      · by_cases h : i + 1 + 1 < k + 1
        · rw [if_pos h]
        · rw [if_neg h, kc_high _ _ _ _ _ _ (by omega), Nat.mul_zero]
    · by_cases h : i + 1 < k + 1
      · rw [if_pos ⟨h, .inl (by omega)⟩]
      · rw [if_neg (by omega), kc_high _ _ _ _ _ _ (by omega), Nat.mul_zero]
theorem kcP_bd {u f d : Nat} {fl : Bool} (hu : u ≤ 9) (hf : f ≤ 9) (hd : d ≤ 9) {k : Nat} (hk : k ≤ 11) (j i : Nat) : 0 ≤ kcP u f d fl k j i ∧ kcP u f d fl k j i ≤ 150094635296999121 := by
  have e : ∀ h, kc u f d fl k h ≤ 5559060566555523 := fun h => by
    have h1 := kc_le (fl := fl) hu hf hd k h
    have h2 : 27 ^ k ≤ 27 ^ 11 := Nat.pow_le_pow_right (by omega) hk
    have h3 : (27 : Nat) ^ 11 = 5559060566555523 := by decide
    omega
  have h1 := Nat.mul_le_mul hu (e (i - 1))
  have h2 := Nat.mul_le_mul hd (e (i + 1))
  have h3 := Nat.mul_le_mul hf (e i)
  unfold kcP
  split <;> split <;> split <;> omega
/-- one more height j: three places turn -/
theorem kcP_step (u f d : Nat) (fl : Bool) (k j i : Nat) : kcP u f d fl k (j + 1) i =
    kcP u f d fl k j i + (if i = j + 1 then ((u * kc u f d fl k j : Nat) : Int) else 0) + (if i + 1 = j then ((d * kc u f d fl k j : Nat) : Int) else 0) + (if i = j ∧ (0 < j ∨ fl = true) then ((f * kc u f d fl k j : Nat) : Int) else 0) := by
  unfold kcP
  by_cases e1 : i = j + 1
  · subst e1
    rw [if_pos (show 1 ≤ j + 1 ∧ j + 1 ≤ j + 1 by omega), if_neg (show ¬ (j + 1 + 1 < j + 1) by omega), if_neg (show ¬ (j + 1 < j + 1 ∧ (0 < j + 1 ∨ fl = true)) by omega), if_neg (show ¬ (1 ≤ j + 1 ∧ j + 1 ≤ j) by omega), if_neg (show ¬ (j + 1 + 1 < j) by omega), if_neg (show ¬ (j + 1 < j ∧ (0 < j + 1 ∨ fl = true)) by omega), if_pos rfl, if_neg (show ¬ j + 1 + 1 = j by omega), if_neg (show ¬ (j + 1 = j ∧ (0 < j ∨ fl = true)) by omega), Nat.add_sub_cancel]
    omega
  · rw [if_neg e1]
    have a1 : (1 ≤ i ∧ i ≤ j + 1) ↔ (1 ≤ i ∧ i ≤ j) := by omega
    by_cases e2 : i + 1 = j
    · subst e2
      rw [if_pos rfl, if_neg (show ¬ (i = i + 1 ∧ (0 < i + 1 ∨ fl = true)) by omega), if_pos (show i + 1 < i + 1 + 1 by omega), if_neg (show ¬ i + 1 < i + 1 by omega)]
      have a3 : (i < i + 1 + 1 ∧ (0 < i ∨ fl = true)) ↔ (i < i + 1 ∧ (0 < i ∨ fl = true)) := by
        constructor <;> intro h <;> exact ⟨by omega, h.2⟩
      simp only [a1, a3]
      omega
    · rw [if_neg e2]
      have a2 : (i + 1 < j + 1) ↔ (i + 1 < j ∨ i = j ∧ False) := by
        constructor
        · intro h; left; omega
        · rintro (h | ⟨_, h⟩)
          · omega
          · exact h.elim
      by_cases e3 : i = j
      · subst e3
        rw [if_neg (show ¬ i + 1 < i + 1 by omega), if_neg (show ¬ i + 1 < i by omega), if_neg (show ¬ (i < i ∧ (0 < i ∨ fl = true)) by omega)]
        simp only [a1]
        by_cases h : 0 < i ∨ fl = true
        · rw [if_pos (show i < i + 1 ∧ (0 < i ∨ fl = true) from ⟨by omega, h⟩), if_pos (show True ∧ (0 < i ∨ fl = true) from ⟨trivial, h⟩)]; omega
        · rw [if_neg (show ¬ (i < i + 1 ∧ (0 < i ∨ fl = true)) from fun x => h x.2), if_neg (show ¬ (True ∧ (0 < i ∨ fl = true)) from fun x => h x.2)]; omega
      · rw [if_neg (show ¬ (i = j ∧ (0 < j ∨ fl = true)) from fun x => e3 x.1)]
        have a3 : (i < j + 1 ∧ (0 < i ∨ fl = true)) ↔ (i < j ∧ (0 < i ∨ fl = true)) := by
          constructor <;> intro h <;> exact ⟨by omega, h.2⟩
        have a4 : (i + 1 < j + 1) ↔ (i + 1 < j) := by omega
        simp only [a1, a3, a4]
        omega
theorem fr_set3 (f g : Nat → Int) (n a b c : Nat) (h : ∀ j, j < n → j ≠ a → j ≠ b → j ≠ c → f j = g j) : (((fr f n).set a (g a)).set b (g b)).set c (g c) = fr g n := by
  apply List.ext_getElem
  · simp [fr]
  · intro i h1 h2
    have hi : i < n := by simpa [fr] using h2
    rw [List.getElem_set, List.getElem_set, List.getElem_set]
    by_cases e1 : c = i
    · subst e1; simp [fr]
    · rw [if_neg e1]
      by_cases e2 : b = i
      · subst e2; simp [fr]
      · rw [if_neg e2]
        by_cases e3 : a = i
        · subst e3; simp [fr]
        · rw [if_neg e3]
          simpa [fr] using h i hi (fun x => e3 x.symm) (fun x => e2 x.symm) (fun x => e1 x.symm)
theorem kcP_up (u f d : Nat) (fl : Bool) (k j : Nat) : kcP u f d fl k (j + 1) (j + 1) = kcP u f d fl k j (j + 1) + (u : Int) * (kc u f d fl k j : Nat) := by
  rw [kcP_step, if_pos rfl, if_neg (by omega), if_neg (by omega), Int.natCast_mul]
  omega
theorem kcP_down (u f d : Nat) (fl : Bool) (k p : Nat) : kcP u f d fl k (p + 1 + 1) p = kcP u f d fl k (p + 1) p + (d : Int) * (kc u f d fl k (p + 1) : Nat) := by
  rw [kcP_step, if_neg (by omega), if_pos rfl, if_neg (by omega), Int.natCast_mul]
  omega
theorem kcP_flat (u f d : Nat) (fl : Bool) (k j : Nat) (h : 0 < j ∨ fl = true) : kcP u f d fl k (j + 1) j = kcP u f d fl k j j + (f : Int) * (kc u f d fl k j : Nat) := by
  rw [kcP_step, if_neg (by omega), if_neg (by omega), if_pos ⟨rfl, h⟩, Int.natCast_mul]
  omega
theorem kcP_same (u f d : Nat) (fl : Bool) (k j i : Nat) (h1 : i ≠ j + 1) (h2 : i + 1 ≠ j) (h3 : ¬ (i = j ∧ (0 < j ∨ fl = true))) : kcP u f d fl k j i = kcP u f d fl k (j + 1) i := by
  rw [kcP_step, if_neg h1, if_neg h2, if_neg h3]
  omega
theorem kcP_set (u f d : Nat) (fl : Bool) (k p n : Nat) : (((fr (kcP u f d fl k (p + 1)) n).set (p + 1 + 1) (kcP u f d fl k (p + 1 + 1) (p + 1 + 1))).set p (kcP u f d fl k (p + 1 + 1) p)).set (p + 1) (kcP u f d fl k (p + 1 + 1) (p + 1)) = fr (kcP u f d fl k (p + 1 + 1)) n :=
  fr_set3 _ _ _ _ _ _ fun j _ h1 h2 h3 => kcP_same u f d fl k (p + 1) j h1 (by omega) (fun x => h3 x.1)
theorem kcP_set0 (u f d : Nat) (k n : Nat) : ((fr (kcP u f d true k 0) n).set 1 (kcP u f d true k 1 1)).set 0 (kcP u f d true k 1 0) = fr (kcP u f d true k 1) n := by
  have := fr_set3 (kcP u f d true k 0) (kcP u f d true k 1) n 1 1 0 fun j _ h1 h2 h3 => kcP_same u f d true k 0 j h1 (by omega) (fun x => h3 x.1)
  rwa [List.set_set] at this
theorem kcP_set1 (u f d : Nat) (k n : Nat) : (fr (kcP u f d false k 0) n).set 1 (kcP u f d false k 1 1) = fr (kcP u f d false k 1) n :=
  fr_set _ _ _ _ fun j _ h1 => kcP_same u f d false k 0 j h1 (by omega) (by simp)
theorem kc_first (u f d : Nat) (fl : Bool) (n : Nat) : (List.replicate (n + 2) (0 : Int)).set 0 1 = fr (fun j => ((kc u f d fl 0 j : Nat) : Int)) (n + 2) := by
  apply List.ext_getElem
  · simp [fr]
  · intro i h1 h2
    simp only [fr, List.getElem_set, List.getElem_replicate, List.getElem_map, List.getElem_range, kc]
    by_cases e : i = 0
    · subst e; rfl
    · rw [if_neg (fun x => e x.symm), if_neg e]; rfl
def kcN (n : Nat) (u f d : Nat) (fl : Bool) : Int := ((kc u f d fl n 0 : Nat) : Int)
end Go.Proofs.YtmfcknlpbliehaaDoor
