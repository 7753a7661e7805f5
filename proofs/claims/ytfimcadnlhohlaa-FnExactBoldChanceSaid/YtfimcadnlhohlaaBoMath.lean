/- Bold play: chances as fractions, and as parts of a whole. -/
import Derived.Test.YtfimcadnlhohlaaRpMath
namespace Go.Proofs.Ytfimcadnlhohlaa
open Go.RowKit
set_option linter.unusedVariables false
/-- the stake of bold play -/
def boK (g i : Int) : Int := if g - i < i then g - i else i
/-- the chance with bold play, so many games at most -/
def bo (g n d : Int) : Nat → Int → Int × Int
  | 0, i => if i = 0 then (0, 1) else if i = g then (1, 1) else (0, 1)
  | r + 1, i => if i = 0 then (0, 1) else if i = g then (1, 1) else
    (n * (bo g n d r (i + boK g i)).1 * (bo g n d r (i - boK g i)).2 + (d - n) * (bo g n d r (i - boK g i)).1 * (bo g n d r (i + boK g i)).2, d * (bo g n d r (i + boK g i)).2 * (bo g n d r (i - boK g i)).2)
def boB : Nat → Int
  | 0 => 1
  | r + 1 => 6 * boB r * boB r
theorem bo_zero (g n d : Int) : ∀ r, bo g n d r 0 = (0, 1)
  | 0 => by unfold bo; rw [if_pos rfl]
  | r + 1 => by unfold bo; rw [if_pos rfl]
theorem bo_goal (g n d : Int) (hg : g ≠ 0) : ∀ r, bo g n d r g = (1, 1)
  | 0 => by unfold bo; rw [if_neg hg, if_pos rfl]
  | r + 1 => by unfold bo; rw [if_neg hg, if_pos rfl]
theorem boB_pos : ∀ r, 1 ≤ boB r
  | 0 => Int.le_refl _
  | r + 1 => by
    have h := boB_pos r
    have h2 := Int.mul_le_mul_of_nonneg_left h (show 0 ≤ 6 * boB r by omega)
    show 1 ≤ 6 * boB r * boB r
    omega
theorem mul3 {x y z A B C : Int} (hx : 0 ≤ x ∧ x ≤ A) (hy : 0 ≤ y ∧ y ≤ B) (hz : 0 ≤ z ∧ z ≤ C) : 0 ≤ x * y * z ∧ x * y * z ≤ A * B * C :=
  mul_le_of' (mul_le_of' hx hy) hz
theorem bo_bd {g n d : Int} (hn : 0 ≤ n) (hd : n ≤ d) (hd1 : 1 ≤ d) (hd6 : d ≤ 6) : ∀ r i, (0 ≤ (bo g n d r i).1 ∧ (bo g n d r i).1 ≤ (bo g n d r i).2) ∧ 1 ≤ (bo g n d r i).2 ∧ (bo g n d r i).2 ≤ boB r
  | 0, i => by
    unfold bo boB
    repeat' split
    all_goals simp
  | r + 1, i => by
    have hB := boB_pos (r + 1)
    by_cases h0 : i = 0
    · subst h0
      rw [bo_zero]
      simp
      exact hB
    · by_cases h1 : i = g
      · subst h1
        rw [bo_goal _ _ _ h0]
        simp
        exact hB
      · have ha := bo_bd (g := g) hn hd hd1 hd6 r (i + boK g i)
        have hc := bo_bd (g := g) hn hd hd1 hd6 r (i - boK g i)
        have e : bo g n d (r + 1) i = (n * (bo g n d r (i + boK g i)).1 * (bo g n d r (i - boK g i)).2 + (d - n) * (bo g n d r (i - boK g i)).1 * (bo g n d r (i + boK g i)).2, d * (bo g n d r (i + boK g i)).2 * (bo g n d r (i - boK g i)).2) := by
          rw [bo, if_neg h0, if_neg h1]
        rw [e]
        have eB : boB (r + 1) = 6 * boB r * boB r := rfl
        rw [eB]
        simp only
        generalize (bo g n d r (i + boK g i)).1 = a at *
        generalize (bo g n d r (i + boK g i)).2 = b at *
        generalize (bo g n d r (i - boK g i)).1 = c at *
        generalize (bo g n d r (i - boK g i)).2 = q at *
        generalize boB r = B at *
        have m1 := mul3 (x := n) (y := a) (z := q) (A := n) (B := b) (C := q) (by omega) (by omega) (by omega)
        have m2 := mul3 (x := d - n) (y := c) (z := b) (A := d - n) (B := q) (C := b) (by omega) (by omega) (by omega)
        have m3 := mul3 (x := d) (y := b) (z := q) (A := 6) (B := B) (C := B) (by omega) (by omega) (by omega)
        have m4 : n * b * q + (d - n) * q * b = d * b * q := by
          rw [Int.mul_assoc (d - n) q b, Int.mul_comm q b, ← Int.mul_assoc, ← Int.add_mul, ← Int.add_mul]
          congr 2
          omega
        have m5 : 1 ≤ d * b * q := by
          have h1 := Int.mul_pos (show 0 < d by omega) (show 0 < b by omega)
          have h2 := Int.mul_pos h1 (show 0 < q by omega)
          omega
        omega
theorem boB4 {r : Nat} (h : r ≤ 4) : boB r ≤ 470184984576 := by
  match r, h with
  | 0, _ => decide
  | 1, _ => decide
  | 2, _ => decide
  | 3, _ => decide
  | 4, _ => decide
theorem boB3 {r : Nat} (h : r ≤ 3) : boB r ≤ 279936 := by
  match r, h with
  | 0, _ => decide
  | 1, _ => decide
  | 2, _ => decide
  | 3, _ => decide
/-- how many of d ^ r parts win with bold play, in r games at most -/
def bI (g n d : Int) : Nat → Int → Int
  | 0, i => if i = 0 then 0 else 1
  | r + 1, i => if i = 0 then 0 else if i = g then d ^ (r + 1) else n * bI g n d r (i + boK g i) + (d - n) * bI g n d r (i - boK g i)
theorem bI_bd {g n d : Int} (hn : 0 ≤ n) (hd : n ≤ d) (hd1 : 1 ≤ d) : ∀ r i, 0 ≤ bI g n d r i ∧ bI g n d r i ≤ d ^ r
  | 0, i => by
    unfold bI
    rw [Int.pow_zero]
    split <;> omega
  | r + 1, i => by
    have h1 := bI_bd (g := g) hn hd hd1 r (i + boK g i)
    have h2 := bI_bd (g := g) hn hd hd1 r (i - boK g i)
    have h3 := pow_pos1 hd1 r
    have h4 := Int.mul_nonneg hn h1.1
    have h5 := Int.mul_nonneg (show 0 ≤ d - n by omega) h2.1
    have h6 := Int.mul_le_mul_of_nonneg_left h1.2 hn
    have h7 := Int.mul_le_mul_of_nonneg_left h2.2 (show 0 ≤ d - n by omega)
    have h8 : d ^ (r + 1) = n * d ^ r + (d - n) * d ^ r := by rw [← Int.add_mul, Int.pow_succ, Int.mul_comm]; congr 1; omega
    have h9 := pow_pos1 hd1 (r + 1)
    rw [bI]
    generalize n * bI g n d r (i + boK g i) = x1 at *
    generalize (d - n) * bI g n d r (i - boK g i) = x2 at *
    generalize n * d ^ r = x3 at *
    generalize (d - n) * d ^ r = x4 at *
    split
    · omega
    · split <;> omega
def chkBo (I G N D : Nat) : Bool := N == 0 || (!(G == 1 || G == 2 || G == 4 || G == 8) ||
  (numZ (bo G N D 4 I).1 (bo G N D 4 I).2 == numZ (bI G N D 3 I) ((D : Int) ^ 3) && denZ (bo G N D 4 I).1 (bo G N D 4 I).2 == denZ (bI G N D 3 I) ((D : Int) ^ 3)))
theorem chkBo_all : ((List.range 7).all fun D => (List.range D).all fun N => (List.range 13).all fun G => (List.range (G + 1)).all fun I => chkBo I G N D) = true := by decide +kernel
theorem bo_rs {i g n d : Int} (h : askB i g n d = true) (hg : g = 1 ∨ g = 2 ∨ g = 4 ∨ g = 8) :
    numZ (bo g n d 4 i).1 (bo g n d 4 i).2 = numZ (bI g n d 3 i) (d ^ 3) ∧ denZ (bo g n d 4 i).1 (bo g n d 4 i).2 = denZ (bI g n d 3 i) (d ^ 3) := by
  obtain ⟨I, G, N, D, rfl, rfl, rfl, rfl, h1, h2, h3, h4, h5, h6⟩ := ask_nat h
  have hc := all4 chkBo_all h1 h2 h4 h6
  have hG : (G == 1 || G == 2 || G == 4 || G == 8) = true := by
    rcases hg with hg | hg | hg | hg
    · rw [show G = 1 by omega]; rfl
    · rw [show G = 2 by omega]; rfl
    · rw [show G = 4 by omega]; rfl
    · rw [show G = 8 by omega]; rfl
  unfold chkBo at hc
  rw [hG, Bool.not_true, Bool.false_or, Bool.or_eq_true, Bool.and_eq_true, beq_iff_eq, beq_iff_eq, beq_iff_eq] at hc
  rcases hc with hc | hc
  · omega
  · exact hc
end Go.Proofs.Ytfimcadnlhohlaa
