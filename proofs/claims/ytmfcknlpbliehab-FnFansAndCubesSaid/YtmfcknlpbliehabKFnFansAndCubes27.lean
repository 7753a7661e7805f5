/- Pack 27 of what FnFansAndCubes needs: TreeNum, AllNum, Cnts. -/
import Derived.Test.YtmfcknlpbliehabKFnFansAndCubes26
/- cyNumber. -/
namespace Go.Proofs.Ytmfcknlpbliehab
open Go.RowKit
set_option linter.unusedVariables false
/-- how many lists of n degrees make t trees -/
def numN (n t : Nat) : Nat := if n = 0 ∨ t = 0 then (if n = t then 1 else 0) else if n < t then 0 else chs (2 * n - t) n * t / (2 * n - t)
end Go.Proofs.Ytmfcknlpbliehab

/- The numbers of forests against their lists. -/
namespace Go.Proofs.Ytmfcknlpbliehab
open Go.RowKit
set_option linter.unusedVariables false
theorem num_dec : ∀ m, m < 7 → ∀ t, t < 8 → numN m t = 0 → (t = 0 ∧ 0 < m) ∨ m < t := by decide +kernel
theorem num_pos (m t : Nat) (h : numN m t ≠ 0) : t ≤ m ∧ (0 < m → 1 ≤ t) := by
  unfold numN at h
  split at h
  · rename_i h1
    split at h
    · omega
    · exact absurd rfl h
  · split at h
    · exact absurd rfl h
    · omega
theorem allF_far (m t : Nat) (h : m < t) : allF m t = [] := by
  cases m with
  | zero => rw [allF, if_neg (by omega)]
  | succ m => rw [allF, if_pos (.inr h)]
theorem allF_zero (m : Nat) (h : 0 < m) : allF m 0 = [] := by
  cases m with
  | zero => omega
  | succ m => rw [allF, if_pos (.inl rfl)]
theorem num_zero (m t : Nat) (hm : m < 7) (h : numN m t = 0) : allF m t = [] := by
  by_cases ht : t < 8
  · rcases num_dec m hm t ht h with ⟨rfl, h2⟩ | h2
    · exact allF_zero m h2
    · exact allF_far m t h2
  · exact allF_far m t (by omega)
theorem allD_stop (m a : Nat) (ha : 1 ≤ a) : ∀ e, allD (allF m) a (m + 1 + e) = allD (allF m) a (m + 1)
  | 0 => rfl
  | e + 1 => by
    rw [← Nat.add_assoc, allD, allF_far m _ (by omega), preD, List.map_nil, List.append_nil]
    exact allD_stop m a ha e
theorem allD_all (m a n : Nat) (ha : 1 ≤ a) (ha2 : a ≤ m + 1) (hn : m + 1 ≤ n) : allD (allF m) a n = allF (m + 1) a := by
  rw [allF, if_neg (by omega)]
  obtain ⟨e, rfl⟩ : ∃ e, n = m + 1 + e := ⟨n - (m + 1), by omega⟩
  exact allD_stop m a ha e
/-- behind a head -/
def behind (p : List Int) (L : List (List Int)) : List (List Int) := L.map (p ++ ·)
theorem behind_app (p : List Int) (L1 L2 : List (List Int)) : behind p (L1 ++ L2) = behind p L1 ++ behind p L2 := by simp [behind]
theorem behind_pre (p : List Int) (d : Nat) (L : List (List Int)) : behind (p ++ [(d : Int)]) L = behind p (preD d L) := by simp [behind, preD]
theorem behind_length (p : List Int) (L : List (List Int)) : (behind p L).length = L.length := by simp [behind]
theorem behind_nil (L : List (List Int)) : behind [] L = L := by simp [behind]
theorem take_set_next (xs : List Int) (p : Nat) (d : Int) (hp : p < xs.length) : (xs.set p d).take (p + 1) = xs.take p ++ [d] := by
  rw [List.take_succ_eq_append_getElem (by rw [List.length_set]; exact hp), List.take_set_of_le (Nat.le_refl _)]
  simp
end Go.Proofs.Ytmfcknlpbliehab

/- cyCounts. -/
namespace Go.Proofs.Ytmfcknlpbliehab
open Go.RowKit
set_option linter.unusedVariables false
/-- the degrees that the first k counts tell -/
def cts (xs : List Int) : Nat → List Int
  | 0 => []
  | k + 1 => cts xs k ++ List.replicate (xs.getD k 0).toNat (k : Int)
def cntL (xs : List Int) : List Int := cts xs xs.length
def ctB (xs : List Int) : Bool := decide (xs.length ≤ 17) && allB xs 0 16
def ctOk (xs : List Int) : Bool := ctB xs && (decide ((cntL xs).length ≤ 16) && decide (0 < (cntL xs).length))
def ctV (xs : List Int) : List Int := if ctOk xs then cntL xs else []
theorem cts_mono (xs : List Int) (k : Nat) : ∀ m, (cts xs k).length ≤ (cts xs (k + m)).length
  | 0 => Nat.le_refl _
  | m + 1 => by
    have := cts_mono xs k m
    rw [← Nat.add_assoc, cts, List.length_append]
    omega
theorem ctOk_long {xs : List Int} {k : Nat} (hk : k ≤ xs.length) (h : 16 < (cts xs k).length) : ctOk xs = false := by
  have := cts_mono xs k (xs.length - k)
  rw [show k + (xs.length - k) = xs.length by omega] at this
  unfold ctOk cntL
  rw [decide_eq_false (p := (cts xs xs.length).length ≤ 16) (by omega), Bool.false_and, Bool.and_false]
theorem ctV_no {xs : List Int} (h : ctOk xs = false) : ctV xs = [] := by unfold ctV; rw [h]; rfl
theorem ctB_at {xs : List Int} (h : ctB xs = true) : xs.length ≤ 17 ∧ ∀ k, k < xs.length → 0 ≤ xs.getD k 0 ∧ xs.getD k 0 ≤ 16 := by
  unfold ctB at h
  rw [Bool.and_eq_true, decide_eq_true_iff] at h
  refine ⟨h.1, fun k hk => ?_⟩
  have h2 := h.2
  unfold allB at h2
  rw [List.all_eq_true] at h2
  have := h2 (xs.getD k 0) (by rw [List.getD_eq_getElem?_getD, List.getElem?_eq_getElem hk]; exact List.getElem_mem hk)
  simpa [inBd] using this
end Go.Proofs.Ytmfcknlpbliehab
