/- Ways one after the other: what is taken, and what is shared with it. -/
import Derived.Test.YtahnknbggacndaaApS
import Derived.Test.YtahnknbggacndaaShrI
namespace Go.Proofs.Ytahnknbggacndaa
open Go.RowKit
set_option linter.unusedVariables false
theorem mtI_isSome (xs ys : List Int) (m : Nat) : ∀ f i, (mtI xs ys m f i).isSome = true ↔ ∃ k, i ≤ k ∧ k < i + f ∧ hasF m ys (xs.getD (k * 2) 0) (xs.getD (k * 2 + 1) 0) = true
  | 0, i => by simp [mtI]; omega
  | f + 1, i => by
    have e := pxF_has ys (xs.getD (i * 2) 0) (xs.getD (i * 2 + 1) 0) m
    rw [pxF_mtJ] at e
    cases h : mtJ xs ys i m 0 with
    | some j =>
      rw [h] at e
      rw [mtI_yes h]
      exact ⟨fun _ => ⟨i, Nat.le_refl _, by omega, e.symm⟩, fun _ => rfl⟩
    | none =>
      rw [h] at e
      rw [mtI_no h, mtI_isSome xs ys m f (i + 1)]
      constructor
      · rintro ⟨k, h1, h2, h3⟩
        exact ⟨k, by omega, by omega, h3⟩
      · rintro ⟨k, h1, h2, h3⟩
        by_cases hk : k = i
        · subst hk
          rw [h3] at e
          cases e
        · exact ⟨k, by omega, by omega, h3⟩
/-- the cells of the way p -/
def wN (L : List Wy) (p : Nat) : Nat := ncN (wg L p).1 (wg L p).2.1 (wg L p).2.2
def wX (L : List Wy) (p : Nat) : List Int := ncX (wg L p).1 (wg L p).2.1 (wg L p).2.2
theorem ncX_len (x y : Int) (s : ByteArray) : (ncX x y s).length = ncN x y s * 2 := by
  unfold ncX ncN
  split
  · exact clF_len _ _ _ _
  · rfl
theorem ncN_25 (x y : Int) (s : ByteArray) : ncN x y s ≤ 25 := by
  unfold ncN
  split
  · next h => have := (wayB_of h).2.1; omega
  · omega
/-- what is taken behind k ways -/
def TkOk (L : List Wy) (k m : Nat) (ts : List Int) : Prop := ∀ a b, hasF m ts a b = true ↔ ∃ p, p < k ∧ hasF (wN L p) (wX L p) a b = true
theorem TkOk.zero (L : List Wy) : TkOk L 0 0 [] := fun a b => by
  rw [hasF_zero]
  constructor
  · intro h; cases h
  · rintro ⟨p, hp, _⟩; omega
theorem TkOk.succ {L : List Wy} {k m : Nat} {ts : List Int} (h : TkOk L k m ts) (hl : ts.length = m * 2) : TkOk L (k + 1) (m + wN L k) (ts ++ wX L k) := fun a b => by
  rw [hasF_app hl, Bool.or_eq_true, h a b]
  constructor
  · rintro (⟨p, hp, h1⟩ | h1)
    · exact ⟨p, by omega, h1⟩
    · exact ⟨k, by omega, h1⟩
  · rintro ⟨p, hp, h1⟩
    rcases Nat.lt_or_ge p k with h2 | h2
    · exact .inl ⟨p, h2, h1⟩
    · obtain rfl : p = k := by omega
      exact .inr h1
theorem mtR_share (L : List Wy) (j i : Nat) : (mtR (wg L j).1 (wg L j).2.1 (wg L j).2.2 (wg L i).1 (wg L i).2.1 (wg L i).2.2).isSome = true ↔ ∃ k, k < wN L j ∧ hasF (wN L i) (wX L i) ((wX L j).getD (k * 2) 0) ((wX L j).getD (k * 2 + 1) 0) = true := by
  unfold mtR
  rw [mtI_isSome]
  constructor
  · rintro ⟨k, _, h2, h3⟩
    exact ⟨k, by unfold wN; omega, h3⟩
  · rintro ⟨k, h2, h3⟩
    exact ⟨k, by omega, by unfold wN at h2; omega, h3⟩
/-- the way k shares with those before -/
theorem apB_succ {L : List Wy} {k m : Nat} {ts : List Int} (h : TkOk L k m ts) : apB (k + 1) L = (apB k L && !(mtI (wX L k) ts m (wN L k) 0).isSome) := by
  rw [Bool.eq_iff_iff, Bool.and_eq_true]
  have e : (!(mtI (wX L k) ts m (wN L k) 0).isSome) = true ↔ ∀ i, i < k → apC L k i = true := by
    rw [Bool.not_eq_true', ← Bool.not_eq_true]
    constructor
    · intro hn i hi
      unfold apC
      rw [Bool.not_eq_true', ← Bool.not_eq_true]
      intro hs
      obtain ⟨q, hq, hs2⟩ := (mtR_share L k i).1 hs
      exact hn ((mtI_isSome _ _ _ _ _).2 ⟨q, by omega, by omega, (h _ _).2 ⟨i, hi, hs2⟩⟩)
    · intro ha hs
      obtain ⟨q, _, hq, hs2⟩ := (mtI_isSome _ _ _ _ _).1 hs
      obtain ⟨i, hi, hs3⟩ := (h _ _).1 hs2
      have h1 := ha i hi
      unfold apC at h1
      rw [(mtR_share L k i).2 ⟨q, by omega, hs3⟩] at h1
      cases h1
  rw [e]
  constructor
  · intro h1
    unfold apB at h1
    rw [List.all_eq_true] at h1
    refine ⟨apB_yes fun j hj i hi => ?_, fun i hi => ?_⟩
    · have := h1 j (List.mem_range.2 (by omega))
      rw [List.all_eq_true] at this
      exact this i (List.mem_range.2 hi)
    · have := h1 k (List.mem_range.2 (by omega))
      rw [List.all_eq_true] at this
      exact this i (List.mem_range.2 hi)
  · rintro ⟨h1, h2⟩
    refine apB_yes fun j hj i hi => ?_
    rcases Nat.lt_or_ge j k with h3 | h3
    · unfold apB at h1
      rw [List.all_eq_true] at h1
      have := h1 j (List.mem_range.2 h3)
      rw [List.all_eq_true] at this
      exact this i (List.mem_range.2 hi)
    · obtain rfl : j = k := by omega
      exact h2 i hi
theorem apB_zero (L : List Wy) : apB 0 L = true := rfl
end Go.Proofs.Ytahnknbggacndaa
