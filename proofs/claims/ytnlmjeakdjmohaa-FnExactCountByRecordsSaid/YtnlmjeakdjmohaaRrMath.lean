/- Paths by what is wanting to a record and by records: the next table while it is filled. Plain numbers. -/
import Derived.Test.YtnlmjeakdjmohaaP8Math
import Derived.Test.YtnlmjeakdjmohaaCbhS
namespace Go.Proofs.Ytnlmjeakdjmohaa
open Go.RowKit
set_option linter.unusedVariables false
/-- the entry p q is done where the row G stands at R -/
abbrev dn (p q G R : Nat) : Prop := p < G ∨ (p = G ∧ q < R)
theorem dn_if (x : Int) (p q G R : Nat) : (if dn p q G (R + 1) then x else 0) = (if dn p q G R then x else 0) + (if p = G ∧ q = R then x else 0) := by
  unfold dn
  by_cases h : p < G ∨ (p = G ∧ q < R)
  · rw [if_pos h, if_pos (by omega), if_neg (by omega)]; omega
  · rw [if_neg h]
    by_cases h2 : p = G ∧ q = R
    · rw [if_pos h2, if_pos (by omega)]; omega
    · rw [if_neg h2, if_neg (by omega)]; omega
/-- the next table: entry g r, those below G and those of G below R being done -/
def rcT (k G R g r : Nat) : Int := (if dn (g + 1) r G R then rcD k (g + 1 + r) else 0) +
  (if g = 0 then (if r = 0 then 0 else if dn 0 (r - 1) G R then rcD k (r - 1) else 0) else if dn (g - 1) r G R then rcD k (g - 1 + r) else 0)
theorem rcT_zero (k g r : Nat) : rcT k 0 0 g r = 0 := by
  unfold rcT
  rw [if_neg (by unfold dn; omega)]
  by_cases h : g = 0
  · rw [if_pos h]
    by_cases h2 : r = 0
    · rw [if_pos h2]; rfl
    · rw [if_neg h2, if_neg (by unfold dn; omega)]; rfl
  · rw [if_neg h, if_neg (by unfold dn; omega)]; rfl
theorem rcT_step (k G R g r : Nat) : rcT k G (R + 1) g r = rcT k G R g r + ((if g + 1 = G ∧ r = R then rcD k (G + R) else 0) +
    (if g = 0 then (if G = 0 ∧ r = R + 1 then rcD k (G + R) else 0) else if g = G + 1 ∧ r = R then rcD k (G + R) else 0)) := by
  unfold rcT
  rw [dn_if]
  have e1 : (if g + 1 = G ∧ r = R then rcD k (g + 1 + r) else 0) = (if g + 1 = G ∧ r = R then rcD k (G + R) else 0) := by
    by_cases h : g + 1 = G ∧ r = R
    · rw [if_pos h, if_pos h, h.1, h.2]
    · rw [if_neg h, if_neg h]
  rw [e1]
  by_cases h : g = 0
  · rw [if_pos h, if_pos h, if_pos h]
    by_cases h2 : r = 0
    · rw [if_pos h2, if_pos h2, if_neg (show ¬ (G = 0 ∧ r = R + 1) by omega)]
      omega
    · rw [if_neg h2, if_neg h2, dn_if]
      have e2 : (if 0 = G ∧ r - 1 = R then rcD k (r - 1) else 0) = (if G = 0 ∧ r = R + 1 then rcD k (G + R) else 0) := by
        by_cases h3 : G = 0 ∧ r = R + 1
        · rw [if_pos h3, if_pos (by omega), h3.1, h3.2, Nat.zero_add]; rfl
        · rw [if_neg h3, if_neg (by omega)]
      rw [e2]
      omega
  · rw [if_neg h, if_neg h, if_neg h, dn_if]
    have e2 : (if g - 1 = G ∧ r = R then rcD k (g - 1 + r) else 0) = (if g = G + 1 ∧ r = R then rcD k (G + R) else 0) := by
      by_cases h3 : g = G + 1 ∧ r = R
      · rw [if_pos h3, if_pos (by omega), h3.1, h3.2]; rfl
      · rw [if_neg h3, if_neg (by omega)]
    rw [e2]
    omega
theorem rcT_skip {k G R : Nat} (h : rcD k (G + R) = 0) (g r : Nat) : rcT k G R g r = rcT k G (R + 1) g r := by
  rw [rcT_step, h]
  simp
theorem rcT_first (k R g r : Nat) : (if g = 1 ∧ r = R then rcT k 0 R 1 R + rcD k R else if g = 0 ∧ r = R + 1 then rcT k 0 R 0 (R + 1) + rcD k R else rcT k 0 R g r) = rcT k 0 (R + 1) g r := by
  rw [rcT_step, Nat.zero_add, if_neg (show ¬ (g + 1 = 0 ∧ r = R) by omega)]
  by_cases h1 : g = 1 ∧ r = R
  · rw [if_pos h1, if_neg (show ¬ g = 0 by omega), if_pos (show g = 0 + 1 ∧ r = R by omega), h1.1, h1.2]
    omega
  · rw [if_neg h1]
    by_cases h2 : g = 0 ∧ r = R + 1
    · rw [if_pos h2, if_pos h2.1, if_pos ⟨rfl, h2.2⟩, h2.1, h2.2]
      omega
    · rw [if_neg h2]
      by_cases h3 : g = 0
      · rw [if_pos h3, if_neg (by omega)]; omega
      · rw [if_neg h3, if_neg (by omega)]; omega
theorem rcT_more (k G R g r : Nat) : (if g = G + 1 + 1 ∧ r = R then rcT k (G + 1) R (G + 1 + 1) R + rcD k (G + 1 + R) else if g = G ∧ r = R then rcT k (G + 1) R G R + rcD k (G + 1 + R) else rcT k (G + 1) R g r) = rcT k (G + 1) (R + 1) g r := by
  rw [rcT_step]
  by_cases h1 : g = G + 1 + 1 ∧ r = R
  · rw [if_pos h1, if_neg (show ¬ (g + 1 = G + 1 ∧ r = R) by omega), if_neg (show ¬ g = 0 by omega), if_pos h1, h1.1, h1.2]
    omega
  · rw [if_neg h1]
    by_cases h2 : g = G ∧ r = R
    · rw [if_pos h2, if_pos (show g + 1 = G + 1 ∧ r = R by omega)]
      by_cases h3 : g = 0
      · rw [if_pos h3, if_neg (by omega), h2.1, h2.2]; omega
      · rw [if_neg h3, if_neg (by omega), h2.1, h2.2]; omega
    · rw [if_neg h2, if_neg (show ¬ (g + 1 = G + 1 ∧ r = R) by omega)]
      by_cases h3 : g = 0
      · rw [if_pos h3, if_neg (by omega)]; omega
      · rw [if_neg h3, if_neg h1]; omega
theorem rcT_row {k m G g r : Nat} (hr : r < m) : rcT k G m g r = rcT k (G + 1) 0 g r := by
  have e : ∀ (p q : Nat) (x : Int), q < m → (if dn p q G m then x else 0) = (if dn p q (G + 1) 0 then x else 0) := fun p q x hq => by
    unfold dn
    by_cases h : p < G + 1
    · rw [if_pos (by omega), if_pos (by omega)]
    · rw [if_neg (by omega), if_neg (by omega)]
  unfold rcT
  rw [e _ _ _ hr, e _ _ _ hr, e _ _ _ (show r - 1 < m by omega)]
theorem rcT_all {k m g r : Nat} (hk : k < m) (hg : g < m + 1) (hr : r < m + 1) : rcT k (m + 1) 0 g r = rcD (k + 1) (g + r) := by
  unfold rcT
  have e1 : (if dn (g + 1) r (m + 1) 0 then rcD k (g + 1 + r) else 0) = rcD k (g + 1 + r) := by
    by_cases h : g + 1 < m + 1
    · rw [if_pos (.inl h)]
    · rw [if_neg (by unfold dn; omega), rcD_far (by omega)]
  rw [e1]
  by_cases h : g = 0
  · rw [if_pos h]
    by_cases h2 : r = 0
    · rw [if_pos h2, h, h2, rcD_first]
      show rcD k 1 + 0 = rcD k 1
      omega
    · obtain ⟨s, rfl⟩ : ∃ s, r = s + 1 := ⟨r - 1, by omega⟩
      rw [if_neg h2, if_pos (.inl (by omega)), h, show 0 + (s + 1) = s + 1 by omega, rcD_step, show 0 + 1 + (s + 1) = s + 2 by omega]
      rfl
  · obtain ⟨q, rfl⟩ : ∃ q, g = q + 1 := ⟨g - 1, by omega⟩
    rw [if_neg h, if_pos (.inl (by omega)), show q + 1 + r = (q + r) + 1 by omega, rcD_step, show q + 1 + 1 + r = q + r + 2 by omega]
    rfl
theorem rcT_bd {k : Nat} (hk : k ≤ 16) (G R g r : Nat) : -131072 ≤ rcT k G R g r ∧ rcT k G R g r ≤ 131072 := by
  have h1 := rcD_bd hk (g + 1 + r)
  have h2 := rcD_bd hk (r - 1)
  have h3 := rcD_bd hk (g - 1 + r)
  unfold rcT
  repeat' split
  all_goals omega
/-! ### the sums of the columns -/
def rcO (m G R r : Nat) : Int := rcS m r (if r < R then G + 1 else G)
theorem rcO_zero (m n : Nat) : List.replicate n (0 : Int) = fr (rcO m 0 0) n := by
  apply List.ext_getElem
  · simp [fr]
  · intro i h1 h2
    simp only [fr, List.getElem_replicate, List.getElem_map, List.getElem_range, rcO]
    rw [if_neg (by omega)]
    rfl
theorem rcO_set (m G R n : Nat) : (fr (rcO m G R) n).set R (rcO m G R R + rcD m (G + R)) = fr (rcO m G (R + 1)) n := by
  have e : rcO m G R R + rcD m (G + R) = rcO m G (R + 1) R := by
    unfold rcO
    rw [if_neg (by omega), if_pos (by omega), rcS]
  rw [e]
  refine frw_set1 _ _ _ _ fun j _ h1 => ?_
  unfold rcO
  by_cases h : j < R
  · rw [if_pos h, if_pos (by omega)]
  · rw [if_neg h, if_neg (by omega)]
theorem rcO_row (m G n : Nat) : fr (rcO m G n) n = fr (rcO m (G + 1) 0) n := frw_congr fun j hj => by
  unfold rcO
  rw [if_pos hj, if_neg (by omega)]
theorem rcS_bd {m : Nat} (hm : m ≤ 16) (r : Nat) : ∀ g : Nat, -(65536 * (g : Int)) ≤ rcS m r g ∧ rcS m r g ≤ 65536 * (g : Int)
  | 0 => by simp [rcS]
  | g + 1 => by
    have h1 := rcS_bd hm r g
    have h2 := rcD_bd hm (g + r)
    rw [rcS]
    omega
theorem rcO_bd {m : Nat} (hm : m ≤ 16) {G : Nat} (hG : G ≤ 17) (R r : Nat) : -1310720 ≤ rcO m G R r ∧ rcO m G R r ≤ 1310720 := by
  unfold rcO
  have h1 := rcS_bd hm r G
  have h2 := rcS_bd hm r (G + 1)
  split <;> omega
def rrF (m r : Nat) : Int := byH m r
theorem rcO_all (m : Nat) : fr (rcO m (m + 1) 0) (m + 1) = fr (rrF m) (m + 1) := frw_congr fun j hj => by
  unfold rcO rrF byH
  rw [if_neg (by omega), rcS_all]
end Go.Proofs.Ytnlmjeakdjmohaa
