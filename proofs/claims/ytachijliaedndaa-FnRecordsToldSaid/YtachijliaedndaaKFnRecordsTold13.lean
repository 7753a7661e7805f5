/- Pack 13 of what FnRecordsTold needs: OneI, DelMath. -/
import Derived.Test.YtachijliaedndaaKFnRecordsTold12
/- Slices of one number and of two, just made. -/
namespace Go.Proofs.Ytachijliaedndaa
open Go.RowKit
set_option linter.unusedVariables false
theorem one_ints (w : World) (x : Int) : RInts (w.alloc (.cells #[.int .i64 x] 3)) (.slice (some ⟨w.heap.size, 0, none⟩) 1 1) [x] :=
  RInts.of_row (B := w.heap.size) (IRow.of_own (World.ownsRow_lit w #[.int .i64 x] 1 (Nat.le_refl _) (by simp [maxLen]) rfl) (by simp) (by simp))
theorem two_ints (w : World) (x y : Int) : RInts (w.alloc (.cells #[.int .i64 x, .int .i64 y] 3)) (.slice (some ⟨w.heap.size, 0, none⟩) 2 2) [x, y] :=
  RInts.of_row (B := w.heap.size) (IRow.of_own (World.ownsRow_lit w #[.int .i64 x, .int .i64 y] 2 (Nat.le_refl _) (by simp [maxLen]) rfl) (by simp) (by simp))
end Go.Proofs.Ytachijliaedndaa

/- Ways in three directions, and those below the line, by recurrences. -/
namespace Go.Proofs.Ytachijliaedndaa
open Go.RowKit
set_option linter.unusedVariables false
/-- the next row: each value is the sum of three -/
def delN (f : Nat → Nat) : Nat → Nat
  | 0 => 1
  | x + 1 => f (x + 1) + delN f x + f x
def del : Nat → Nat → Nat
  | 0 => fun _ => 1
  | y + 1 => delN (del y)
theorem del_head : ∀ y, del y 0 = 1
  | 0 => rfl
  | y + 1 => rfl
theorem del_step (y x : Nat) : del (y + 1) (x + 1) = del y (x + 1) + del (y + 1) x + del y x := rfl
theorem del_le : ∀ y x, del y x ≤ 3 ^ (y + x)
  | 0, x => Nat.one_le_pow _ _ (by omega)
  | y + 1, 0 => by rw [del_head]; exact Nat.one_le_pow _ _ (by omega)
  | y + 1, x + 1 => by
    have h1 := del_le y (x + 1)
    have h2 := del_le (y + 1) x
    have h3 := del_le y x
    have e1 : 3 ^ (y + (x + 1)) = 3 * 3 ^ (y + x) := by rw [show y + (x + 1) = (y + x) + 1 by omega, Nat.pow_succ, Nat.mul_comm]
    have e2 : 3 ^ (y + 1 + x) = 3 * 3 ^ (y + x) := by rw [show y + 1 + x = (y + x) + 1 by omega, Nat.pow_succ, Nat.mul_comm]
    have e3 : 3 ^ (y + 1 + (x + 1)) = 3 * (3 * 3 ^ (y + x)) := by rw [show y + 1 + (x + 1) = (y + x) + 1 + 1 by omega, Nat.pow_succ, Nat.pow_succ]; omega
    rw [del_step, e3]
    omega
theorem del_small {y x : Nat} (hy : y ≤ 12) (hx : x ≤ 12) : del y x ≤ 282429536481 := by
  have h1 := del_le y x
  have h2 : 3 ^ (y + x) ≤ 3 ^ 24 := Nat.pow_le_pow_right (by omega) (by omega)
  have h3 : (3 : Nat) ^ 24 = 282429536481 := by decide
  omega
/-- the row while it is made: the first x places are those of the next row -/
def delF (y x j : Nat) : Int := if j < x then (del (y + 1) j : Nat) else (del y j : Nat)
theorem fr_set (f g : Nat → Int) (n k : Nat) (h : ∀ j, j < n → j ≠ k → f j = g j) : (fr f n).set k (g k) = fr g n := by
  apply List.ext_getElem
  · simp [fr]
  · intro i h1 h2
    have hi : i < n := by simpa [fr] using h2
    rw [List.getElem_set]
    by_cases e : k = i
    · subst e; simp [fr]
    · rw [if_neg e]; simpa [fr] using h i hi (fun x => e x.symm)
theorem fr_congr {f g : Nat → Int} {n : Nat} (h : ∀ j, j < n → f j = g j) : fr f n = fr g n := by
  unfold fr
  exact List.map_congr_left (fun j hj => h j (List.mem_range.1 hj))
theorem delF_one (y m : Nat) : fr (fun j => ((del y j : Nat) : Int)) (m + 1) = fr (delF y 1) (m + 1) := fr_congr fun j _ => by
  unfold delF
  split
  · rw [show j = 0 by omega, del_head, del_head]
  · rfl
theorem delF_all (y m : Nat) : fr (delF y (m + 1)) (m + 1) = fr (fun j => ((del (y + 1) j : Nat) : Int)) (m + 1) := fr_congr fun j hj => by
  unfold delF
  rw [if_pos hj]
theorem delF_set (y p m : Nat) : (fr (delF y (p + 1)) (m + 1)).set (p + 1) ((del (y + 1) (p + 1) : Nat) : Int) = fr (delF y (p + 1 + 1)) (m + 1) := by
  have := fr_set (delF y (p + 1)) (delF y (p + 1 + 1)) (m + 1) (p + 1) (fun j hj hne => by
    unfold delF
    by_cases e : j < p + 1
    · rw [if_pos e, if_pos (by omega)]
    · rw [if_neg e, if_neg (by omega)])
  rw [← this]
  congr 1
  unfold delF
  rw [if_pos (by omega)]
def delOk (a b : Int) : Bool := (decide (0 ≤ a) && decide (a ≤ 12)) && (decide (0 ≤ b) && decide (b ≤ 12))
def delV (a b : Int) : Int := if delOk a b = true then ((del b.toNat a.toNat : Nat) : Int) else 0
/-! ### below the line -/
def schN (f : Nat → Nat) (y : Nat) : Nat → Nat
  | 0 => 0
  | x + 1 => if x + 1 < y then 0 else f (x + 1) + f x + schN f y x
def sch : Nat → Nat → Nat
  | 0 => fun _ => 1
  | y + 1 => schN (sch y) (y + 1)
theorem sch_step (y x : Nat) : sch (y + 1) (x + 1) = if x < y then 0 else sch y (x + 1) + sch y x + sch (y + 1) x := by
  show (if x + 1 < y + 1 then 0 else _) = _
  by_cases h : x < y
  · rw [if_pos h, if_pos (by omega)]
  · rw [if_neg h, if_neg (by omega)]; rfl
theorem sch_low : ∀ y x, x < y → sch y x = 0
  | y + 1, 0, _ => rfl
  | y + 1, x + 1, h => by rw [sch_step, if_pos (by omega)]
theorem sch_le : ∀ y x, sch y x ≤ 3 ^ (y + x)
  | 0, x => Nat.one_le_pow _ _ (by omega)
  | y + 1, 0 => by rw [sch_low _ _ (by omega)]; exact Nat.zero_le _
  | y + 1, x + 1 => by
    have h1 := sch_le y (x + 1)
    have h2 := sch_le (y + 1) x
    have h3 := sch_le y x
    have e1 : 3 ^ (y + (x + 1)) = 3 * 3 ^ (y + x) := by rw [show y + (x + 1) = (y + x) + 1 by omega, Nat.pow_succ, Nat.mul_comm]
    have e2 : 3 ^ (y + 1 + x) = 3 * 3 ^ (y + x) := by rw [show y + 1 + x = (y + x) + 1 by omega, Nat.pow_succ, Nat.mul_comm]
    have e3 : 3 ^ (y + 1 + (x + 1)) = 3 * (3 * 3 ^ (y + x)) := by rw [show y + 1 + (x + 1) = (y + x) + 1 + 1 by omega, Nat.pow_succ, Nat.pow_succ]; omega
    rw [sch_step, e3]
    split <;> omega
theorem sch_small {y x : Nat} (hy : y ≤ 12) (hx : x ≤ 12) : sch y x ≤ 282429536481 := by
  have h1 := sch_le y x
  have h2 : 3 ^ (y + x) ≤ 3 ^ 24 := Nat.pow_le_pow_right (by omega) (by omega)
  have h3 : (3 : Nat) ^ 24 = 282429536481 := by decide
  omega
/-- the next row while it is made: the places below x are done -/
def schF (y x j : Nat) : Int := if j < x then (sch (y + 1) j : Nat) else 0
theorem schF_start (y n : Nat) : List.replicate (n + 1) (0 : Int) = fr (schF y (y + 1)) (n + 1) := by
  apply List.ext_getElem
  · simp [fr]
  · intro i h1 h2
    simp only [fr, List.getElem_replicate, List.getElem_map, List.getElem_range, schF]
    split
    · rw [sch_low _ _ (by omega)]; rfl
    · rfl
theorem schF_all (y n : Nat) : fr (schF y (n + 1)) (n + 1) = fr (fun j => ((sch (y + 1) j : Nat) : Int)) (n + 1) := fr_congr fun j hj => by
  unfold schF
  rw [if_pos hj]
theorem schF_set (y p n : Nat) (u : Int) : ((fr (schF y (p + 1)) (n + 1)).set (p + 1) u).set (p + 1) ((sch (y + 1) (p + 1) : Nat) : Int) = fr (schF y (p + 1 + 1)) (n + 1) := by
  rw [List.set_set]
  have := fr_set (schF y (p + 1)) (schF y (p + 1 + 1)) (n + 1) (p + 1) (fun j hj hne => by
    unfold schF
    by_cases e : j < p + 1
    · rw [if_pos e, if_pos (by omega)]
    · rw [if_neg e, if_neg (by omega)])
  rw [← this]
  congr 1
  unfold schF
  rw [if_pos (by omega)]
def schOk (a : Int) : Bool := decide (0 ≤ a) && decide (a ≤ 12)
def schV (a : Int) : Int := if schOk a = true then ((sch a.toNat a.toNat : Nat) : Int) else 0
end Go.Proofs.Ytachijliaedndaa
