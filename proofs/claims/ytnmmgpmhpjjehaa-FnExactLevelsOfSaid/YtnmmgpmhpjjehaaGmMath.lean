/- Sums of the weights of beginnings of mixed paths, by weights of each step at each height. -/
import Derived.Test.YtnmmgpmhpjjehaaMoMath
namespace Go.Proofs.Ytnmmgpmhpjjehaa
open Go.RowKit
set_option linter.unusedVariables false
/-- the sum of the weights of k steps to the height h; a step's weight goes by the height ahead of it -/
def gm (u f d : Nat → Int) : Nat → Nat → Int
  | 0, h => if h = 0 then 1 else 0
  | k + 1, h => d (h + 1) * gm u f d k (h + 1) + f h * gm u f d k h + (if h = 0 then 0 else u (h - 1) * gm u f d k (h - 1))
theorem gm_high (u f d : Nat → Int) : ∀ k h, k < h → gm u f d k h = 0
  | 0, h, hh => by unfold gm; rw [if_neg (by omega)]
  | k + 1, h, hh => by
    rw [gm, gm_high u f d k (h + 1) (by omega), gm_high u f d k h (by omega), if_neg (by omega), gm_high u f d k (h - 1) (by omega)]
    simp
theorem mul9 {a b B : Int} (ha : -9 ≤ a ∧ a ≤ 9) (hb : -B ≤ b ∧ b ≤ B) : -(9 * B) ≤ a * b ∧ a * b ≤ 9 * B := mul_abs ha hb
structure W9 (u f d : Nat → Int) : Prop where
  u : ∀ h, -9 ≤ u h ∧ u h ≤ 9
  f : ∀ h, -9 ≤ f h ∧ f h ≤ 9
  d : ∀ h, -9 ≤ d h ∧ d h ≤ 9
theorem gm_bd {u f d : Nat → Int} (hw : W9 u f d) : ∀ k h, -((27 ^ k : Nat) : Int) ≤ gm u f d k h ∧ gm u f d k h ≤ ((27 ^ k : Nat) : Int)
  | 0, h => by unfold gm; split <;> simp
  | k + 1, h => by
    have h1 := mul9 (hw.d (h + 1)) (gm_bd hw k (h + 1))
    have h2 := mul9 (hw.f h) (gm_bd hw k h)
    have h3 := mul9 (hw.u (h - 1)) (gm_bd hw k (h - 1))
    have e : ((27 ^ (k + 1) : Nat) : Int) = 27 * ((27 ^ k : Nat) : Int) := by rw [Nat.pow_succ]; push_cast; omega
    have p : (0 : Int) ≤ ((27 ^ k : Nat) : Int) := Int.natCast_nonneg _
    rw [gm, e]
    generalize ((27 ^ k : Nat) : Int) = P at *
    split <;> omega
theorem p27 {k : Nat} (hk : k ≤ 11) : ((27 ^ k : Nat) : Int) ≤ 5559060566555523 := by
  have h2 : 27 ^ k ≤ 27 ^ 11 := Nat.pow_le_pow_right (by omega) hk
  have h3 : (27 : Nat) ^ 11 = 5559060566555523 := by decide
  omega
theorem gm_small {u f d : Nat → Int} (hw : W9 u f d) {k : Nat} (hk : k ≤ 11) (h : Nat) : -5559060566555523 ≤ gm u f d k h ∧ gm u f d k h ≤ 5559060566555523 := by
  have h1 := gm_bd hw k h
  have h2 := p27 hk
  omega
/-- what has been added up where three lists of heights are still to come, one for each kind of steps -/
def gmP (u f d : Nat → Int) (k : Nat) (lD lF lU : Nat → Bool) (t : Nat) : Int :=
  (if lD (t + 1) = true then 0 else d (t + 1) * gm u f d k (t + 1)) + (if lF t = true then 0 else f t * gm u f d k t) + (if t = 0 ∨ lU (t - 1) = true then 0 else u (t - 1) * gm u f d k (t - 1))
theorem gmP_bd {u f d : Nat → Int} (hw : W9 u f d) {k : Nat} (hk : k ≤ 11) (lD lF lU : Nat → Bool) (t : Nat) : -150094635296999121 ≤ gmP u f d k lD lF lU t ∧ gmP u f d k lD lF lU t ≤ 150094635296999121 := by
  have h1 := mul9 (hw.d (t + 1)) (gm_small hw hk (t + 1))
  have h2 := mul9 (hw.f t) (gm_small hw hk t)
  have h3 := mul9 (hw.u (t - 1)) (gm_small hw hk (t - 1))
  unfold gmP
  split <;> split <;> split <;> omega
theorem gmP_done (u f d : Nat → Int) (k : Nat) (l : Nat → Bool) (h : ∀ t, l t = false) (t : Nat) : gmP u f d k l l l t = gm u f d (k + 1) t := by
  unfold gmP
  rw [gm, h, h, h]
  simp
theorem gmP_start (u f d : Nat → Int) (k : Nat) (l : Nat → Bool) (h : ∀ t, l t = false → gm u f d k t = 0) (t : Nat) : gmP u f d k l l l t = 0 := by
  unfold gmP
  have e : ∀ (c : Nat → Int) t, (if l t = true then 0 else c t * gm u f d k t) = 0 := fun c t => by
    split
    · rfl
    · rename_i hh
      rw [h t (by simpa using hh), Int.mul_zero]
  rw [e, e]
  split
  · rfl
  · rename_i hh
    rw [h (t - 1) (by cases e2 : l (t - 1) <;> simp_all), Int.mul_zero]
    rfl
def strk (l : Nat → Bool) (h : Nat) (t : Nat) : Bool := l t && decide (t ≠ h)
theorem strk_same (l : Nat → Bool) (h : Nat) : strk l h h = false := by unfold strk; simp
theorem strk_other (l : Nat → Bool) {h t : Nat} (e : t ≠ h) : strk l h t = l t := by unfold strk; simp [e]
/-- the step D from h + 1 -/
theorem gmP_D (u f d : Nat → Int) (k : Nat) (l lF lU : Nat → Bool) (p : Nat) (hl : l (p + 1) = true) (t : Nat) :
    gmP u f d k (strk l (p + 1)) lF lU t = if t = p then gmP u f d k l lF lU t + gm u f d k (p + 1) * d (p + 1) else gmP u f d k l lF lU t := by
  unfold gmP
  by_cases e : t = p
  · subst e
    rw [if_pos rfl, strk_same, hl, if_neg (by simp), if_pos rfl, Int.mul_comm]
    omega
  · rw [if_neg e, strk_other l (by omega)]
theorem gmP_D0 (u f d : Nat → Int) (k : Nat) (l lF lU : Nat → Bool) (t : Nat) : gmP u f d k (strk l 0) lF lU t = gmP u f d k l lF lU t := by
  unfold gmP
  rw [strk_other l (by omega)]
theorem gmP_Dz (u f d : Nat → Int) (k : Nat) (l lF lU : Nat → Bool) (h : Nat) (hd : d h = 0) (hl : l h = true) (t : Nat) : gmP u f d k (strk l h) lF lU t = gmP u f d k l lF lU t := by
  cases h with
  | zero => exact gmP_D0 ..
  | succ p =>
    rw [gmP_D u f d k l lF lU p hl, hd]
    simp
theorem gmP_F (u f d : Nat → Int) (k : Nat) (l lD lU : Nat → Bool) (h : Nat) (hl : l h = true) (t : Nat) :
    gmP u f d k lD (strk l h) lU t = if t = h then gmP u f d k lD l lU t + gm u f d k h * f h else gmP u f d k lD l lU t := by
  unfold gmP
  by_cases e : t = h
  · subst e
    rw [if_pos rfl, strk_same, hl, if_pos rfl, Int.mul_comm (gm u f d k t)]
    simp only [Bool.false_eq_true, if_false]
    omega
  · rw [if_neg e, strk_other l e]
theorem gmP_Fz (u f d : Nat → Int) (k : Nat) (l lD lU : Nat → Bool) (h : Nat) (hf : f h = 0) (hl : l h = true) (t : Nat) : gmP u f d k lD (strk l h) lU t = gmP u f d k lD l lU t := by
  rw [gmP_F u f d k l lD lU h hl, hf]
  simp
theorem gmP_U (u f d : Nat → Int) (k : Nat) (l lD lF : Nat → Bool) (h : Nat) (hl : l h = true) (t : Nat) :
    gmP u f d k lD lF (strk l h) t = if t = h + 1 then gmP u f d k lD lF l t + gm u f d k h * u h else gmP u f d k lD lF l t := by
  unfold gmP
  by_cases e : t = h + 1
  · subst e
    rw [if_pos rfl, Nat.add_sub_cancel, strk_same, hl, Int.mul_comm (gm u f d k h)]
    simp only [Bool.false_eq_true, or_false, Nat.add_eq_zero_iff, Nat.one_ne_zero, and_false, if_false, or_true, if_true]
    omega
  · rw [if_neg e]
    by_cases e0 : t = 0
    · have e1 : ∀ x : Bool, (t = 0 ∨ x = true) := fun x => .inl e0
      simp only [e1, if_true]
    · rw [strk_other l (by omega)]
theorem gmP_Uz (u f d : Nat → Int) (k : Nat) (l lD lF : Nat → Bool) (h : Nat) (hu : u h = 0) (hl : l h = true) (t : Nat) : gmP u f d k lD lF (strk l h) t = gmP u f d k lD lF l t := by
  rw [gmP_U u f d k l lD lF h hl, hu]
  simp
/-! ### colours and moments -/
theorem gm_kc (u f d : Nat) (fl : Bool) : ∀ k h, gm (fun _ => (u : Int)) (fun h => if h = 0 ∧ fl = false then 0 else (f : Int)) (fun _ => (d : Int)) k h = ((kc u f d fl k h : Nat) : Int)
  | 0, h => by unfold gm kc; split <;> rfl
  | k + 1, 0 => by
    rw [gm, gm_kc u f d fl k 1, gm_kc u f d fl k 0, kc]
    cases fl <;> simp
  | k + 1, h + 1 => by
    rw [gm, gm_kc u f d fl k (h + 1 + 1), gm_kc u f d fl k (h + 1), Nat.add_sub_cancel, gm_kc u f d fl k h, kc, show h + 1 + 1 = h + 2 from rfl]
    simp
    omega
def moU (_ : Nat) : Int := 1
def moF (K : Nat) (F : Nat → Int) (h : Nat) : Int := if h < K then F h else 0
def moD (K : Nat) (D : Nat → Int) (h : Nat) : Int := if 1 ≤ h ∧ h ≤ K then D (h - 1) else 0
theorem gm_mo (K : Nat) (F D : Nat → Int) (hK : 1 ≤ K) : ∀ k h, h ≤ K → gm moU (moF K F) (moD K D) k h = mo K F D k h
  | 0, h, _ => by unfold gm mo; rfl
  | k + 1, h, hh => by
    rw [gm, mo_step]
    by_cases h1 : h < K
    · rw [gm_mo K F D hK k (h + 1) (by omega), gm_mo K F D hK k h hh, if_pos h1, moF, if_pos h1, moD, if_pos ⟨by omega, by omega⟩, Nat.add_sub_cancel]
      by_cases h0 : h = 0
      · rw [if_pos h0, if_neg (by omega)]; omega
      · rw [if_neg h0, if_pos (by omega), gm_mo K F D hK k (h - 1) (by omega), moU, Int.one_mul]; omega
    · rw [if_neg h1, moF, if_neg h1, moD, if_neg (by omega), if_neg (by omega), if_pos (by omega), gm_mo K F D hK k (h - 1) (by omega), moU]
      simp
theorem W9.mo {K : Nat} {F D : Nat → Int} (hF : ∀ i, i < K → -5 ≤ F i ∧ F i ≤ 5) (hD : ∀ i, i < K → -5 ≤ D i ∧ D i ≤ 5) : W9 moU (moF K F) (moD K D) :=
  ⟨fun h => by unfold moU; omega, fun h => by
    unfold moF
    split
    · rename_i hh; have := hF h hh; omega
    · omega, fun h => by
    unfold moD
    split
    · have := hD (h - 1) (by omega); omega
    · omega⟩
theorem W9.kc {u f d : Nat} {fl : Bool} (hu : u ≤ 9) (hf : f ≤ 9) (hd : d ≤ 9) : W9 (fun _ => (u : Int)) (fun h => if h = 0 ∧ fl = false then 0 else (f : Int)) (fun _ => (d : Int)) :=
  ⟨fun h => by show -9 ≤ (u : Int) ∧ (u : Int) ≤ 9; omega, fun h => by show -9 ≤ (if h = 0 ∧ fl = false then 0 else (f : Int)) ∧ _; split <;> omega, fun h => by show -9 ≤ (d : Int) ∧ (d : Int) ≤ 9; omega⟩
/-- the moments of levels hang on few weights -/
theorem mo_high (K : Nat) (F D : Nat → Int) : ∀ k h, k < h → mo K F D k h = 0
  | 0, h, hh => by unfold mo; rw [if_neg (by omega)]
  | k + 1, h, hh => by
    rw [mo_step, mo_high K F D k (h + 1) (by omega), mo_high K F D k h (by omega), mo_high K F D k (h - 1) (by omega)]
    simp
theorem mo_same {K K' n : Nat} {F D F' D' : Nat → Int} (hK : n ≤ 2 * K) (hK' : n ≤ 2 * K') (hF : ∀ i, 2 * i + 1 ≤ n → F i = F' i) (hD : ∀ i, 2 * i + 2 ≤ n → D i = D' i) :
    ∀ k h, h + k ≤ n → mo K F D k h = mo K' F' D' k h
  | 0, h, _ => by unfold mo; rfl
  | k + 1, h, hh => by
    by_cases hk : h ≤ k + 1
    · rw [mo_step, mo_step, mo_same hK hK' hF hD k h (by omega)]
      have e1 : (if 1 ≤ h ∧ h ≤ K then mo K F D k (h - 1) else 0) = (if 1 ≤ h ∧ h ≤ K' then mo K' F' D' k (h - 1) else 0) := by
        by_cases h1 : 1 ≤ h
        · rw [if_pos ⟨h1, by omega⟩, if_pos ⟨h1, by omega⟩, mo_same hK hK' hF hD k (h - 1) (by omega)]
        · rw [if_neg (by omega), if_neg (by omega)]
      rw [e1]
      congr 1
      by_cases h2 : h ≤ k
      · rw [if_pos (by omega), if_pos (by omega), hF h (by omega)]
        congr 1
        by_cases h3 : h + 1 ≤ k
        · rw [mo_same hK hK' hF hD k (h + 1) (by omega), hD h (by omega)]
        · rw [mo_high _ _ _ _ _ (by omega), mo_high _ _ _ _ _ (by omega), Int.mul_zero, Int.mul_zero]
      · rw [mo_high _ _ _ k h (by omega), mo_high _ _ _ k (h + 1) (by omega), mo_high _ _ _ k (h + 1) (by omega), Int.mul_zero, Int.mul_zero, Int.mul_zero, Int.mul_zero]
        split <;> split <;> rfl
    · rw [mo_high _ _ _ _ _ (by omega), mo_high _ _ _ _ _ (by omega)]
end Go.Proofs.Ytnmmgpmhpjjehaa
