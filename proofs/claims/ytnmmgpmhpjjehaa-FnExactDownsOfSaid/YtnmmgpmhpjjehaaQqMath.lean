/- Quotients along lists; those of Hankel determinants, twice. -/
import Derived.Test.YtnmmgpmhpjjehaaDetMath
import Derived.Test.YtnmmgpmhpjjehaaDelMath
namespace Go.Proofs.Ytnmmgpmhpjjehaa
open Go.RowKit
set_option linter.unusedVariables false
def qo (xs : List Int) (i : Nat) : Bool := decide (1 ≤ xs.getD (i + 1) 0) && ((xs.getD (i + 1) 0).tmod (xs.getD i 0) == 0)
def qoA (xs : List Int) (n : Nat) : Bool := (List.range n).all (qo xs)
def qq (xs : List Int) (n : Nat) : List Int := fr (fun i => (xs.getD (i + 1) 0).tdiv (xs.getD i 0)) n
theorem qoA_succ (xs : List Int) (n : Nat) : qoA xs (n + 1) = (qoA xs n && qo xs n) := by
  unfold qoA
  rw [List.range_succ, List.all_append]
  simp
theorem qoA_no {xs : List Int} {n m : Nat} (h : qo xs n = false) (hm : n < m) : qoA xs m = false := by
  unfold qoA
  rw [List.all_eq_false]
  exact ⟨n, List.mem_range.2 hm, by rw [h]; simp⟩
theorem qoA_iff {xs : List Int} {n : Nat} : qoA xs n = true ↔ ∀ i, i < n → 1 ≤ xs.getD (i + 1) 0 ∧ (xs.getD (i + 1) 0).tmod (xs.getD i 0) = 0 := by
  unfold qoA qo
  rw [List.all_eq_true]
  constructor
  · intro h i hi
    have := h i (List.mem_range.2 hi)
    simpa only [Bool.and_eq_true, decide_eq_true_eq, beq_iff_eq] using this
  · intro h i hi
    have := h i (List.mem_range.1 hi)
    simpa only [Bool.and_eq_true, decide_eq_true_eq, beq_iff_eq] using this
theorem qq_succ (xs : List Int) (n : Nat) : qq xs (n + 1) = qq xs n ++ [(xs.getD (n + 1) 0).tdiv (xs.getD n 0)] := by
  unfold qq
  rw [fr_snoc]
theorem qq_length (xs : List Int) (n : Nat) : (qq xs n).length = n := fr_length _ _
theorem qq_get (xs : List Int) (n i : Nat) (h : i < n) : (qq xs n).getD i 0 = (xs.getD (i + 1) 0).tdiv (xs.getD i 0) := fr_get _ _ _ h
def hkL (ms : List Int) (n : Nat) : List Int := fr (hkD ms) n
theorem hkL_get (ms : List Int) (n i : Nat) (h : i < n) : (hkL ms n).getD i 0 = hkD ms i := fr_get _ _ _ h
theorem hkD_zero (ms : List Int) : hkD ms 0 = 1 := rfl
theorem dq_one (ms : List Int) : dq ms 1 = hkD ms 1 := by
  show (hkD ms 1).tdiv (hkD ms 0) = _
  rw [hkD_zero, Int.tdiv_one]
theorem qq_hk (ms : List Int) (n i : Nat) (h : i < n) : (qq (hkL ms (n + 1)) n).getD i 0 = dq ms (i + 1) := by
  rw [qq_get _ _ _ h, hkL_get _ _ _ (by omega), hkL_get _ _ _ (by omega)]
  rfl
theorem dcA_iff {ms : List Int} {n : Nat} : dcA ms n = true ↔ ∀ i, i < n → ((hkD ms (i + 1)).tmod (hkD ms i) = 0 ∧ 1 ≤ dq ms (i + 1)) ∧ (i = 0 → hkD ms 1 = 1) ∧ (dq ms (i + 1)).tmod (dq ms i) = 0 := by
  unfold dcA dc
  rw [List.all_eq_true]
  constructor
  · intro h i hi
    have := h i (List.mem_range.2 hi)
    simp only [Bool.and_eq_true, decide_eq_true_eq, beq_iff_eq, Bool.or_eq_true, Bool.not_eq_true', beq_eq_false_iff_ne, ne_eq] at this
    exact ⟨this.1, fun e => this.2.1.resolve_left (fun x => x e), this.2.2⟩
  · intro h i hi
    have := h i (List.mem_range.1 hi)
    simp only [Bool.and_eq_true, decide_eq_true_eq, beq_iff_eq, Bool.or_eq_true, Bool.not_eq_true', beq_eq_false_iff_ne, ne_eq]
    refine ⟨this.1, ?_, this.2.2⟩
    by_cases e : i = 0
    · exact .inr (this.2.1 e)
    · exact .inl e
/-- what the program asks of the determinants and of their quotients -/
theorem dcA_qo (ms : List Int) (n : Nat) : dcA ms (n + 1) = ((qoA (hkL ms (n + 2)) (n + 1) && ((qq (hkL ms (n + 2)) (n + 1)).getD 0 0 == 1)) && qoA (qq (hkL ms (n + 2)) (n + 1)) n) := by
  rw [Bool.eq_iff_iff, Bool.and_eq_true, Bool.and_eq_true, beq_iff_eq, qoA_iff, qoA_iff, qq_hk _ _ _ (by omega), dq_one]
  constructor
  · intro h
    have hd := dcA_iff.1 h
    refine ⟨⟨fun i hi => ?_, (hd 0 (by omega)).2.1 rfl⟩, fun i hi => ?_⟩
    · rw [hkL_get _ _ _ (by omega), hkL_get _ _ _ (by omega)]
      have h2 : dcA ms (i + 1) = true := dcA_iff.2 fun j hj => hd j (by omega)
      exact ⟨(dc_pos (i + 1) h2).1, (hd i hi).1.1⟩
    · rw [qq_hk _ _ _ (by omega), qq_hk _ _ _ (by omega)]
      exact ⟨(hd (i + 1) (by omega)).1.2, (hd (i + 1) (by omega)).2.2⟩
  · rintro ⟨⟨h1, h2⟩, h3⟩
    refine dcA_iff.2 fun i hi => ⟨⟨?_, ?_⟩, fun _ => h2, ?_⟩
    · have := (h1 i hi).2
      rwa [hkL_get _ _ _ (by omega), hkL_get _ _ _ (by omega)] at this
    · cases i with
      | zero => rw [dq_one, h2]; omega
      | succ j =>
        have := (h3 j (by omega)).1
        rwa [qq_hk _ _ _ (by omega)] at this
    · cases i with
      | zero =>
        show (dq ms 1).tmod 1 = 0
        rw [Int.tmod_one]
      | succ j =>
        have := (h3 j (by omega)).2
        rwa [qq_hk _ _ _ (by omega), qq_hk _ _ _ (by omega)] at this
theorem dwL_qq (ms : List Int) : ∀ n, dwL ms (n + 1) = fr (fun i => (dq ms (i + 2)).tdiv (dq ms (i + 1))) n
  | 0 => rfl
  | n + 1 => by
    rw [show dwL ms (n + 1 + 1) = (if 1 ≤ n + 1 then dwL ms (n + 1) ++ [(dq ms (n + 1 + 1)).tdiv (dq ms (n + 1))] else dwL ms (n + 1)) from rfl, if_pos (by omega), dwL_qq ms n, ← fr_snoc]
theorem dwL_two (ms : List Int) (n : Nat) : dwL ms (n + 1) = qq (qq (hkL ms (n + 2)) (n + 1)) n := by
  rw [dwL_qq]
  unfold qq
  refine fr_congr fun j hj => ?_
  rw [show fr (fun i => ((hkL ms (n + 2)).getD (i + 1) 0).tdiv ((hkL ms (n + 2)).getD i 0)) (n + 1) = qq (hkL ms (n + 2)) (n + 1) from rfl, qq_hk _ _ _ (by omega), qq_hk _ _ _ (by omega)]
end Go.Proofs.Ytnmmgpmhpjjehaa
