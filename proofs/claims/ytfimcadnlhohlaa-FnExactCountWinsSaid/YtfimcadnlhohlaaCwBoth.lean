/- Orders of wins and losses: the model's rows against the paths between walls. -/
import Derived.Test.YtfimcadnlhohlaaCwMath
import Derived.Test.YtfimcadnlhohlaaBtwMath
namespace Go.Proofs.Ytfimcadnlhohlaa
open Go.RowKit
set_option linter.unusedVariables false
theorem cwP_at (f : Nat → Int) : ∀ (m j : Nat), cwP f m j = (if 2 ≤ j ∧ j - 1 < m then f (j - 1) else 0) + (if j + 1 < m then f (j + 1) else 0)
  | 0, j => by unfold cwP; rw [if_neg (by omega), if_neg (by omega)]; rfl
  | m + 1, j => by
    show cwP f m j + cwS f m j = _
    rw [cwP_at f m j]
    unfold cwS ind
    by_cases h0 : m = 0
    · rw [if_pos h0, if_neg (by omega), if_neg (by omega), if_neg (by omega), if_neg (by omega)]
      rfl
    · rw [if_neg h0]
      by_cases h1 : j = m + 1
      · rw [if_pos h1, if_neg (by omega), if_neg (by omega), if_neg (by omega), if_pos (by omega), if_neg (by omega), show j - 1 = m by omega]
        omega
      · rw [if_neg h1]
        by_cases h2 : j = m - 1
        · rw [if_pos h2, if_neg (c := j + 1 < m) (by omega), if_pos (c := j + 1 < m + 1) (by omega), show j + 1 = m by omega]
          by_cases h3 : 2 ≤ j
          · rw [if_pos (by omega), if_pos (by omega)]
            omega
          · rw [if_neg (by omega), if_neg (by omega)]
            omega
        · rw [if_neg h2]
          by_cases h3 : 2 ≤ j ∧ j - 1 < m
          · rw [if_pos h3, if_pos (c := 2 ≤ j ∧ j - 1 < m + 1) (by omega)]
            by_cases h4 : j + 1 < m
            · rw [if_pos h4, if_pos (by omega)]
              omega
            · rw [if_neg h4, if_neg (by omega)]
              omega
          · rw [if_neg h3, if_neg (c := 2 ≤ j ∧ j - 1 < m + 1) (by omega)]
            by_cases h4 : j + 1 < m
            · rw [if_pos h4, if_pos (by omega)]
              omega
            · rw [if_neg h4, if_neg (by omega)]
              omega
/-- by last steps -/
theorem cw_last {lo hi : Int} : ∀ (n : Nat) (s e : Int), (lo ≤ s ∧ s ≤ hi) → (lo ≤ e ∧ e ≤ hi) → cw lo hi (n + 1) s e = cw lo hi n s (e - 1) + cw lo hi n s (e + 1)
  | 0, s, e, hs, he => by
    rw [cw, cw, cw, cw, cw]
    by_cases h1 : s = e - 1
    · rw [if_pos h1, if_pos (c := s + 1 ≤ hi) (by omega), if_pos (c := s + 1 = e) (by omega), if_neg (c := s - 1 = e) (by omega), if_neg (c := s = e + 1) (by omega), ite_self]
      rfl
    · rw [if_neg h1, if_neg (c := s + 1 = e) (by omega), ite_self]
      by_cases h2 : s = e + 1
      · rw [if_pos h2, if_pos (c := lo ≤ s - 1) (by omega), if_pos (c := s - 1 = e) (by omega)]
        rfl
      · rw [if_neg h2, if_neg (c := s - 1 = e) (by omega), ite_self]
  | n + 1, s, e, hs, he => by
    show (if lo ≤ s - 1 then cw lo hi (n + 1) (s - 1) e else 0) + (if s + 1 ≤ hi then cw lo hi (n + 1) (s + 1) e else 0) = ((if lo ≤ s - 1 then cw lo hi n (s - 1) (e - 1) else 0) + (if s + 1 ≤ hi then cw lo hi n (s + 1) (e - 1) else 0)) + ((if lo ≤ s - 1 then cw lo hi n (s - 1) (e + 1) else 0) + (if s + 1 ≤ hi then cw lo hi n (s + 1) (e + 1) else 0))
    by_cases h1 : lo ≤ s - 1
    · rw [if_pos h1, if_pos h1, if_pos h1, cw_last n (s - 1) e (by omega) he]
      by_cases h2 : s + 1 ≤ hi
      · rw [if_pos h2, if_pos h2, if_pos h2, cw_last n (s + 1) e (by omega) he]
        omega
      · rw [if_neg h2, if_neg h2, if_neg h2]
        omega
    · rw [if_neg h1, if_neg h1, if_neg h1]
      by_cases h2 : s + 1 ≤ hi
      · rw [if_pos h2, if_pos h2, if_pos h2, cw_last n (s + 1) e (by omega) he]
        omega
      · rw [if_neg h2, if_neg h2, if_neg h2]
        rfl
theorem gw_cw {i g : Nat} (hi : 1 ≤ i ∧ i < g) : ∀ (k j : Nat), 1 ≤ j ∧ j < g → gw i g k j = cw 1 ((g : Int) - 1) k i j
  | 0, j, hj => by
    show ind i 1 j = _
    rw [cw]
    unfold ind
    by_cases h : j = i
    · rw [if_pos h, if_pos (by omega)]
    · rw [if_neg h, if_neg (by omega)]
  | k + 1, j, hj => by
    show cwP (gw i g k) g j = _
    rw [cwP_at, cw_last k i j (by omega) (by omega)]
    congr 1
    · by_cases h : 2 ≤ j
      · rw [if_pos (by omega), gw_cw hi k (j - 1) (by omega), show ((j - 1 : Nat) : Int) = (j : Int) - 1 by omega]
      · rw [if_neg (by omega), cw_out k i _ (by omega) (by omega)]
    · by_cases h : j + 1 < g
      · rw [if_pos h, gw_cw hi k (j + 1) (by omega)]
        rfl
      · rw [if_neg h, cw_out k i _ (by omega) (by omega)]
/-- the goal is first reached by one more game won -/
theorem gw_goal {i g : Nat} (hi : 1 ≤ i ∧ i < g) (k : Nat) : gw i g (k + 1) g = cw 1 ((g : Int) - 1) k i ((g : Int) - 1) := by
  show cwP (gw i g k) g g = _
  rw [cwP_at, if_pos (by omega), if_neg (by omega), gw_cw hi k (g - 1) (by omega), show ((g - 1 : Nat) : Int) = (g : Int) - 1 by omega, Int.add_zero]
theorem cw_par {lo hi : Int} : ∀ (n : Nat) (s e : Int), ((n : Int) + s - e) % 2 ≠ 0 → cw lo hi n s e = 0
  | 0, s, e, h => by rw [cw, if_neg (by omega)]
  | n + 1, s, e, h => by
    rw [cw, cw_par n (s - 1) e (by omega), cw_par n (s + 1) e (by omega), ite_self, ite_self]
    rfl
theorem gw_start {i g : Nat} (hi : 1 ≤ i ∧ i < g) : gw i g 0 g = 0 := by
  show ind i 1 g = 0
  unfold ind
  rw [if_neg (by omega)]
end Go.Proofs.Ytfimcadnlhohlaa
