/- Pack 18 of what FnFansAndCubes needs: WyS, AskS, AllMath. -/
import Derived.Test.YtmfcknlpbliehabKFnFansAndCubes17
/- The model's WaysMatrix. -/
namespace Go.Proofs.Ytmfcknlpbliehab
open Go.RowKit
set_option linter.unusedVariables false
theorem gdB_of {n m : Nat} {xs ys : List Int} (h : gdB n xs m ys = true) : m = n ∧ n ≤ 4 ∧ (∀ i, i < n → gdC xs i = true) ∧ ∀ j, j < m → gdC ys j = true := by
  unfold gdB at h
  rw [Bool.and_eq_true, Bool.and_eq_true, beq_iff_eq, List.all_eq_true] at h
  obtain ⟨⟨h1, rfl⟩, h2⟩ := h
  have h3 := inBd_if6 h1
  have h4 : ∀ i, i < m → gdC xs i = true ∧ gdC ys i = true := fun i hi => by
    have := h2 i (List.mem_range.mpr hi)
    rwa [Bool.and_eq_true] at this
  exact ⟨rfl, by omega, fun i hi => (h4 i hi).1, fun i hi => (h4 i hi).2⟩
theorem wmR_get (xs ys : List Int) (m n k : Nat) : ((wmT xs ys m n).getD k []).length ≤ m := by
  rw [List.getD_eq_getElem?_getD]
  rcases Nat.lt_or_ge k n with h | h
  · rw [List.getElem?_eq_getElem (by rw [wmT_length]; exact h)]
    simp [wmT, wmR]
  · rw [List.getElem?_eq_none (by rw [wmT_length]; exact h)]
    simp
def wyT (n : Nat) (xs : List Int) (m : Nat) (ys : List Int) : List (List Int) := if gdB n xs m ys = true then wmT xs ys m n else []
end Go.Proofs.Ytmfcknlpbliehab

/- The model's WaysMatrix, ncAsked, CountApart. -/
namespace Go.Proofs.Ytmfcknlpbliehab
open Go.RowKit
set_option linter.unusedVariables false
def askC (n : Nat) (xs : List Int) (m : Nat) (ys : List Int) : Bool := ((gdB n xs m ys && tdB n xs) && tdB m ys) && smT (wmT xs ys m n)
def cpV (n : Nat) (xs : List Int) (m : Nat) (ys : List Int) : Int := if askC n xs m ys = true then detF n (wmT xs ys m n) else 0
end Go.Proofs.Ytmfcknlpbliehab

/- All trees of a few nodes: plain lists. -/
namespace Go.Proofs.Ytmfcknlpbliehab
open Go.RowKit
set_option linter.unusedVariables false
def preD (d : Nat) (L : List (List Int)) : List (List Int) := L.map fun r => (d : Int) :: r
def allD (F : Nat → List (List Int)) (t : Nat) : Nat → List (List Int)
  | 0 => []
  | D + 1 => allD F t D ++ preD D (F (t - 1 + D))
/-- all lists of n degrees that make t trees, in order -/
def allF : Nat → Nat → List (List Int)
  | 0, t => if t = 0 then [[]] else []
  | n + 1, t => if t = 0 ∨ n + 1 < t then [] else allD (allF n) t (n + 1)
theorem preD_length (d : Nat) (L : List (List Int)) : (preD d L).length = L.length := by simp [preD]
theorem allD_len (F : Nat → List (List Int)) (t b : Nat) (h : ∀ u, (F u).length ≤ b) : ∀ D, (allD F t D).length ≤ D * b
  | 0 => by simp [allD]
  | D + 1 => by
    have h1 := allD_len F t b h D
    have h2 := h (t - 1 + D)
    rw [allD, List.length_append, preD_length, Nat.add_mul, Nat.one_mul]
    omega
theorem allF_len : ∀ (n t : Nat), n ≤ 7 → (allF n t).length ≤ 7 ^ n
  | 0, t, _ => by rw [allF]; split <;> simp
  | n + 1, t, h => by
    rw [allF]
    split
    · simp
    · have h1 := allD_len (allF n) t (7 ^ n) (fun u => allF_len n u (by omega)) (n + 1)
      have h2 : (n + 1) * 7 ^ n ≤ 7 * 7 ^ n := Nat.mul_le_mul_right _ (by omega)
      rw [Nat.pow_succ, Nat.mul_comm (7 ^ n)]
      omega
theorem allD_le (n t D : Nat) (hn : n ≤ 6) (hD : D ≤ 7) : (allD (allF n) t D).length ≤ 823543 := by
  have h1 := allD_len (allF n) t (7 ^ n) (fun u => allF_len n u (by omega)) D
  have h2 : 7 ^ n ≤ 7 ^ 6 := Nat.pow_le_pow_right (by omega) hn
  have h3 : D * 7 ^ n ≤ 7 * 7 ^ 6 := Nat.mul_le_mul hD h2
  have h4 : 7 * 7 ^ 6 = 823543 := by decide
  omega
theorem allD_mem (F : Nat → List (List Int)) (t n : Nat) (h : ∀ u, ∀ r ∈ F u, r.length = n) : ∀ D, ∀ r ∈ allD F t D, r.length = n + 1
  | 0, r, hr => by simp [allD] at hr
  | D + 1, r, hr => by
    rw [allD, List.mem_append] at hr
    rcases hr with hr | hr
    · exact allD_mem F t n h D r hr
    · unfold preD at hr
      rw [List.mem_map] at hr
      obtain ⟨q, hq, rfl⟩ := hr
      rw [List.length_cons, h _ q hq]
theorem allF_mem : ∀ (n t : Nat), ∀ r ∈ allF n t, r.length = n
  | 0, t, r, hr => by
    rw [allF] at hr
    split at hr
    · simp at hr; rw [hr]; rfl
    · simp at hr
  | n + 1, t, r, hr => by
    rw [allF] at hr
    split at hr
    · simp at hr
    · exact allD_mem (allF n) t n (fun u => allF_mem n u) (n + 1) r hr
/-- the first k of the lists, d ahead of each -/
theorem preD_snoc (d : Nat) (L : List (List Int)) (k : Nat) (hk : k < L.length) : preD d (L.take (k + 1)) = preD d (L.take k) ++ [(d : Int) :: L.getD k []] := by
  unfold preD
  rw [List.take_succ_eq_append_getElem hk, List.map_append, List.getD_eq_getElem?_getD, List.getElem?_eq_getElem hk]
  rfl
end Go.Proofs.Ytmfcknlpbliehab
