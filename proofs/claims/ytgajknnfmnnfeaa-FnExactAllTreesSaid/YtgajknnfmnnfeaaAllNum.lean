/- The numbers of forests against their lists. -/
import Derived.Test.YtgajknnfmnnfeaaAllMath
import Derived.Test.YtgajknnfmnnfeaaTreeNum
namespace Go.Proofs.Ytgajknnfmnnfeaa
open Go.RowKit
set_option linter.unusedVariables false
theorem num_dec : ∀ m, m < 7 → ∀ t, t < 8 → numN m t = 0 → (t = 0 ∧ 0 < m) ∨ m < t := by decide +kernel
theorem num_pos (m t : Nat) (h : numN m t ≠ 0) : t ≤ m ∧ (0 < m → 1 ≤ t) := by
  unfold numN at h
  split at h
  · rename_i h1
    split at h
    · omega
    · exact absurd rfl h
  · split at h
    · exact absurd rfl h
    · omega
theorem allF_far (m t : Nat) (h : m < t) : allF m t = [] := by
  cases m with
  | zero => rw [allF, if_neg (by omega)]
  | succ m => rw [allF, if_pos (.inr h)]
theorem allF_zero (m : Nat) (h : 0 < m) : allF m 0 = [] := by
  cases m with
  | zero => omega
  | succ m => rw [allF, if_pos (.inl rfl)]
theorem num_zero (m t : Nat) (hm : m < 7) (h : numN m t = 0) : allF m t = [] := by
  by_cases ht : t < 8
  · rcases num_dec m hm t ht h with ⟨rfl, h2⟩ | h2
    · exact allF_zero m h2
    · exact allF_far m t h2
  · exact allF_far m t (by omega)
theorem allD_stop (m a : Nat) (ha : 1 ≤ a) : ∀ e, allD (allF m) a (m + 1 + e) = allD (allF m) a (m + 1)
  | 0 => rfl
  | e + 1 => by
    rw [← Nat.add_assoc, allD, allF_far m _ (by omega), preD, List.map_nil, List.append_nil]
    exact allD_stop m a ha e
theorem allD_all (m a n : Nat) (ha : 1 ≤ a) (ha2 : a ≤ m + 1) (hn : m + 1 ≤ n) : allD (allF m) a n = allF (m + 1) a := by
  rw [allF, if_neg (by omega)]
  obtain ⟨e, rfl⟩ : ∃ e, n = m + 1 + e := ⟨n - (m + 1), by omega⟩
  exact allD_stop m a ha e
/-- behind a head -/
def behind (p : List Int) (L : List (List Int)) : List (List Int) := L.map (p ++ ·)
theorem behind_app (p : List Int) (L1 L2 : List (List Int)) : behind p (L1 ++ L2) = behind p L1 ++ behind p L2 := by simp [behind]
theorem behind_pre (p : List Int) (d : Nat) (L : List (List Int)) : behind (p ++ [(d : Int)]) L = behind p (preD d L) := by simp [behind, preD]
theorem behind_length (p : List Int) (L : List (List Int)) : (behind p L).length = L.length := by simp [behind]
theorem behind_nil (L : List (List Int)) : behind [] L = L := by simp [behind]
theorem take_set_next (xs : List Int) (p : Nat) (d : Int) (hp : p < xs.length) : (xs.set p d).take (p + 1) = xs.take p ++ [d] := by
  rw [List.take_succ_eq_append_getElem (by rw [List.length_set]; exact hp), List.take_set_of_le (Nat.le_refl _)]
  simp
end Go.Proofs.Ytgajknnfmnnfeaa
