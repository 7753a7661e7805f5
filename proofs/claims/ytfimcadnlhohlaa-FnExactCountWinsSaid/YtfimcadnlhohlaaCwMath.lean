/- Orders of wins and losses. -/
import Derived.Test.YtfimcadnlhohlaaHwMath
namespace Go.Proofs.Ytfimcadnlhohlaa
open Go.RowKit
set_option linter.unusedVariables false
def cwS (f : Nat → Int) (s j : Nat) : Int := if s = 0 then 0 else ind (s + 1) (f s) j + ind (s - 1) (f s) j
def cwP (f : Nat → Int) : Nat → Nat → Int
  | 0, _ => 0
  | m + 1, j => cwP f m j + cwS f m j
def gw (i g : Nat) : Nat → Nat → Int
  | 0 => ind i 1
  | k + 1 => cwP (gw i g k) g
theorem cwS_sum {g : Nat} {f : Nat → Int} (hf : ∀ s, 0 ≤ f s) {s : Nat} (hs : s < g) : sumTo (cwS f s) (g + 1) ≤ 2 * f s := by
  have h0 := hf s
  by_cases h : s = 0
  · have e : cwS f s = ind (g + 1) 0 := by funext j; unfold cwS ind; rw [if_pos h]; split <;> rfl
    rw [e, sumTo_ind, if_neg (by omega)]
    omega
  · have e : cwS f s = fun j => ind (s + 1) (f s) j + ind (s - 1) (f s) j := by funext j; unfold cwS; rw [if_neg h]
    rw [e, sumTo_add, sumTo_ind, sumTo_ind, if_pos (by omega), if_pos (by omega)]
    omega
theorem cwP_sum {g : Nat} {f : Nat → Int} (hf : ∀ s, 0 ≤ f s) : ∀ m, m ≤ g → sumTo (cwP f m) (g + 1) ≤ 2 * sumTo f m
  | 0, _ => by
    have e : cwP f 0 = ind (g + 1) 0 := by funext j; unfold ind; split <;> rfl
    rw [e, sumTo_ind]
    simp [sumTo]
  | m + 1, h => by
    have e : cwP f (m + 1) = fun j => cwP f m j + cwS f m j := rfl
    have h1 := cwP_sum (g := g) hf m (by omega)
    have h2 := cwS_sum (g := g) hf (s := m) (by omega)
    rw [e, sumTo_add]
    show _ ≤ 2 * (sumTo f m + f m)
    omega
theorem cwS_nonneg {f : Nat → Int} {s j : Nat} (hf : 0 ≤ f s) : 0 ≤ cwS f s j := by
  unfold cwS ind
  repeat' split
  all_goals omega
theorem cwP_nonneg {f : Nat → Int} (hf : ∀ s, 0 ≤ f s) : ∀ m j, 0 ≤ cwP f m j
  | 0, _ => Int.le_refl _
  | m + 1, j => by
    have h1 := cwP_nonneg hf m j
    have h2 := cwS_nonneg (j := j) (hf m)
    show 0 ≤ cwP f m j + cwS f m j
    omega
theorem cw_nonneg (i g : Nat) : ∀ k j, 0 ≤ gw i g k j
  | 0, j => by show 0 ≤ ind i 1 j; unfold ind; split <;> omega
  | k + 1, j => cwP_nonneg (fun s => cw_nonneg i g k s) _ j
theorem cw_sum {i g : Nat} (hi : i ≤ g) : ∀ k, sumTo (gw i g k) (g + 1) ≤ 2 ^ k
  | 0 => by
    show sumTo (ind i 1) (g + 1) ≤ 2 ^ 0
    rw [sumTo_ind, if_pos (by omega), Int.pow_zero]
    omega
  | k + 1 => by
    have h1 := cwP_sum (g := g) (cw_nonneg i g k) g (Nat.le_refl _)
    have h2 := sumTo_le (F := gw i g k) (m := g + 1) (fun j _ => cw_nonneg i g k j) g (by omega)
    have h3 := cw_sum hi k
    show sumTo (cwP (gw i g k) g) (g + 1) ≤ _
    rw [Int.pow_succ]
    omega
theorem two18 {k : Nat} (hk : k ≤ 18) : (2 : Int) ^ k ≤ 262144 := by
  have h1 : (2 : Nat) ^ k ≤ 2 ^ 18 := Nat.pow_le_pow_right (by omega) hk
  have h2 : (2 : Nat) ^ 18 = 262144 := by decide
  have h3 := pow_cast 2 k
  have h4 : ((2 : Nat) : Int) = 2 := rfl
  rw [h4] at h3
  omega
theorem cw_bd {i g : Nat} (hi : i ≤ g) {k : Nat} (hk : k ≤ 18) {j : Nat} (hj : j ≤ g) : 0 ≤ gw i g k j ∧ gw i g k j ≤ 262144 := by
  have h0 := cw_nonneg i g k
  have h1 := le_sumTo (F := gw i g k) (m := g + 1) (fun j _ => h0 j) (k := j) (by omega)
  have h2 := cw_sum hi k
  have h3 := two18 hk
  exact ⟨h0 j, by omega⟩
theorem cwP_bd {i g : Nat} (hi : i ≤ g) {k : Nat} (hk : k ≤ 18) {m : Nat} (hm : m ≤ g) {j : Nat} (hj : j ≤ g) : 0 ≤ cwP (gw i g k) m j ∧ cwP (gw i g k) m j ≤ 524288 := by
  have hf := cw_nonneg i g k
  have h0 := cwP_nonneg hf m
  have h1 := le_sumTo (F := cwP (gw i g k) m) (m := g + 1) (fun j _ => h0 j) (k := j) (by omega)
  have h2 := cwP_sum (g := g) hf m hm
  have h3 := sumTo_le (F := gw i g k) (m := g + 1) (fun j _ => hf j) m (by omega)
  have h4 := cw_sum hi k
  have h5 := two18 hk
  exact ⟨h0 j, by omega⟩
theorem cwP_mid {f : Nat → Int} {s : Nat} (m : Nat) :
    ((fr (cwP f (s + 1)) m).set (s + 1 + 1) (cwP f (s + 1) (s + 1 + 1) + f (s + 1))).set s (cwP f (s + 1) s + f (s + 1)) = fr (cwP f (s + 1 + 1)) m := by
  refine fr_set2 _ _ _ _ _ _ _ ?_ ?_ fun j hj h1 h2 => ?_
  · show _ = cwP f (s + 1) (s + 1 + 1) + cwS f (s + 1) (s + 1 + 1)
    unfold cwS ind
    rw [if_neg (by omega), if_pos rfl, if_neg (by omega)]
    omega
  · show _ = cwP f (s + 1) s + cwS f (s + 1) s
    unfold cwS ind
    rw [if_neg (by omega), if_neg (by omega), if_pos (by omega)]
    omega
  · show _ = cwP f (s + 1) j + cwS f (s + 1) j
    unfold cwS ind
    rw [if_neg (by omega), if_neg (by omega), if_neg (by omega)]
    omega
theorem cwP_one (f : Nat → Int) (m : Nat) : List.replicate m (0 : Int) = fr (cwP f 1) m := by
  apply List.ext_getElem
  · simp [fr]
  · intro j h1 h2
    simp [fr, cwP, cwS]
def cwOk (i g k : Int) : Bool := (inBd 1 12 g && inBd 1 (g - 1) i) && inBd 0 18 k
def cwV (i g k : Int) : Int := if cwOk i g k = true then gw i.toNat g.toNat k.toNat g.toNat else 0
end Go.Proofs.Ytfimcadnlhohlaa
