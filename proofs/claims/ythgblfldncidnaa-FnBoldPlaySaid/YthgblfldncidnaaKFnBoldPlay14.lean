/- Pack 14 of what FnBoldPlay needs: RpMath, BoMath. -/
import Derived.Test.YthgblfldncidnaaKFnBoldPlay13
/- Sums that the program takes for its gamblers, against the model's fractions. Plain numbers; finitely many by the kernel. -/
namespace Go.Proofs.Ythgblfldncidnaa
open Go.RowKit
set_option linter.unusedVariables false
/-- the rise with j + 1 held -/
def rsF (g : Nat) (n d : Int) (j : Nat) : Int := n ^ (g - 1 - j) * (d - n) ^ j
def rsS (g : Nat) (n d : Int) (m : Nat) : Int := sumTo (rsF g n d) m
theorem all4 {f : Nat → Nat → Nat → Nat → Bool} (h : ((List.range 7).all fun D => (List.range D).all fun N => (List.range 13).all fun G => (List.range (G + 1)).all fun I => f I G N D) = true) {I G N D : Nat} (hD : D < 7) (hN : N < D) (hG : G < 13) (hI : I ≤ G) : f I G N D = true := by
  rw [List.all_eq_true] at h
  have h1 := h D (List.mem_range.2 hD)
  rw [List.all_eq_true] at h1
  have h2 := h1 N (List.mem_range.2 hN)
  rw [List.all_eq_true] at h2
  have h3 := h2 G (List.mem_range.2 hG)
  rw [List.all_eq_true] at h3
  exact h3 I (List.mem_range.2 (by omega))
def chkWin (I G N D : Nat) : Bool := N == 0 || (G == 0 || (winP I G N D == numZ (rsS G N D I) (rsS G N D G) && winQ I G N D == denZ (rsS G N D I) (rsS G N D G)))
theorem chkWin_all : ((List.range 7).all fun D => (List.range D).all fun N => (List.range 13).all fun G => (List.range (G + 1)).all fun I => chkWin I G N D) = true := by decide +kernel
theorem ask_nat {i g n d : Int} (h : askB i g n d = true) : ∃ I G N D : Nat, i = I ∧ g = G ∧ n = N ∧ d = D ∧ D < 7 ∧ N < D ∧ 0 < N ∧ G < 13 ∧ 0 < G ∧ I ≤ G := by
  obtain ⟨h1, h2, h3, h4⟩ := askB_of h
  exact ⟨i.toNat, g.toNat, n.toNat, d.toNat, by omega, by omega, by omega, by omega, by omega, by omega, by omega, by omega, by omega, by omega⟩
theorem win_rs {i g n d : Int} (h : askB i g n d = true) : winP i g n d = numZ (rsS g.toNat n d i.toNat) (rsS g.toNat n d g.toNat) ∧ winQ i g n d = denZ (rsS g.toNat n d i.toNat) (rsS g.toNat n d g.toNat) := by
  obtain ⟨I, G, N, D, rfl, rfl, rfl, rfl, h1, h2, h3, h4, h5, h6⟩ := ask_nat h
  have hc := all4 chkWin_all h1 h2 h4 h6
  unfold chkWin at hc
  rw [Bool.or_eq_true, Bool.or_eq_true, Bool.and_eq_true, beq_iff_eq, beq_iff_eq, beq_iff_eq, beq_iff_eq] at hc
  simp only [Int.toNat_natCast]
  rcases hc with hc | hc | hc
  · omega
  · omega
  · exact hc
def maxN (x : Int) : Int := max x (-x)
/-- the mean number of games as the program takes it -/
def mgA (i g n d : Int) : Int := numZ (g * winP i g n d) (winQ i g n d) - i * denZ (g * winP i g n d) (winQ i g n d)
def mgE (n d : Int) : Int := n - (d - n)
def mgX (i g n d : Int) : Int := maxN (mgA i g n d) * d
def mgY (i g n d : Int) : Int := maxN (mgE n d) * denZ (g * winP i g n d) (winQ i g n d)
def mgM (i g n d : Int) : Int := (g * winP i g n d - i * winQ i g n d) * d
def mgW (i g n d : Int) : Int := winQ i g n d * (n - (d - n))
def chkMg (I G N D : Nat) : Bool := N == 0 || (G == 0 || ((N : Int) == (D : Int) - N || (if mgW I G N D < 0 then numZ (-mgM I G N D) (-mgW I G N D) == numZ (mgX I G N D) (mgY I G N D) && denZ (-mgM I G N D) (-mgW I G N D) == denZ (mgX I G N D) (mgY I G N D)
  else numZ (mgM I G N D) (mgW I G N D) == numZ (mgX I G N D) (mgY I G N D) && denZ (mgM I G N D) (mgW I G N D) == denZ (mgX I G N D) (mgY I G N D))))
theorem chkMg_all : ((List.range 7).all fun D => (List.range D).all fun N => (List.range 13).all fun G => (List.range (G + 1)).all fun I => chkMg I G N D) = true := by decide +kernel
theorem mg_rs {i g n d : Int} (h : askB i g n d = true) (hne : n ≠ d - n) :
    (if mgW i g n d < 0 then numZ (-mgM i g n d) (-mgW i g n d) else numZ (mgM i g n d) (mgW i g n d)) = numZ (mgX i g n d) (mgY i g n d) ∧
    (if mgW i g n d < 0 then denZ (-mgM i g n d) (-mgW i g n d) else denZ (mgM i g n d) (mgW i g n d)) = denZ (mgX i g n d) (mgY i g n d) := by
  obtain ⟨I, G, N, D, rfl, rfl, rfl, rfl, h1, h2, h3, h4, h5, h6⟩ := ask_nat h
  have hc := all4 chkMg_all h1 h2 h4 h6
  unfold chkMg at hc
  rw [Bool.or_eq_true, Bool.or_eq_true, Bool.or_eq_true, beq_iff_eq, beq_iff_eq, beq_iff_eq] at hc
  rcases hc with hc | hc | hc | hc
  · omega
  · omega
  · exact absurd hc hne
  · by_cases hw : mgW I G N D < 0
    · simp only [if_pos hw] at hc ⊢
      rwa [Bool.and_eq_true, beq_iff_eq, beq_iff_eq] at hc
    · simp only [if_neg hw] at hc ⊢
      rwa [Bool.and_eq_true, beq_iff_eq, beq_iff_eq] at hc
/-- a fair game is one of 1 / 2 -/
def chkHalf (I G N D : Nat) : Bool := !((N : Int) == (D : Int) - N && ruB N D) || (N == 1 && D == 2)
theorem chkHalf_all : ((List.range 7).all fun D => (List.range D).all fun N => (List.range 13).all fun G => (List.range (G + 1)).all fun I => chkHalf I G N D) = true := by decide +kernel
theorem half_of {n d : Int} (h : ruB n d = true) (he : n = d - n) : n = 1 ∧ d = 2 := by
  have hb := ruB_of h
  obtain ⟨N, rfl⟩ := Int.eq_ofNat_of_zero_le (show 0 ≤ n by omega)
  obtain ⟨D, rfl⟩ := Int.eq_ofNat_of_zero_le (show 0 ≤ d by omega)
  have hc := all4 chkHalf_all (D := D) (N := N) (G := 0) (I := 0) (by omega) (by omega) (by omega) (by omega)
  unfold chkHalf at hc
  rw [h, show ((N : Int) == (D : Int) - N) = true by rw [beq_iff_eq]; exact he] at hc
  simp only [Bool.and_self, Bool.not_true, Bool.false_or, Bool.and_eq_true, beq_iff_eq] at hc
  omega
/-- the first game won, of those who win -/
def fxA (i g n d : Int) : Int := numZ (n * winP (i + 1) g n d) (d * winQ (i + 1) g n d)
def fxB (i g n d : Int) : Int := denZ (n * winP (i + 1) g n d) (d * winQ (i + 1) g n d)
def chkFw (I G N D : Nat) : Bool := N == 0 || (I == 0 || (I == G ||
  (numZ (fxA I G N D * winQ I G N D) (fxB I G N D * winP I G N D) == numZ (N * rsS G N D (I + 1)) (D * rsS G N D I) && denZ (fxA I G N D * winQ I G N D) (fxB I G N D * winP I G N D) == denZ (N * rsS G N D (I + 1)) (D * rsS G N D I))))
theorem chkFw_all : ((List.range 7).all fun D => (List.range D).all fun N => (List.range 13).all fun G => (List.range (G + 1)).all fun I => chkFw I G N D) = true := by decide +kernel
theorem fw_rs {i g n d : Int} (h : askB i g n d = true) (hi : 1 ≤ i ∧ i ≤ g - 1) :
    numZ (fxA i g n d * winQ i g n d) (fxB i g n d * winP i g n d) = numZ (n * rsS g.toNat n d (i.toNat + 1)) (d * rsS g.toNat n d i.toNat) ∧
    denZ (fxA i g n d * winQ i g n d) (fxB i g n d * winP i g n d) = denZ (n * rsS g.toNat n d (i.toNat + 1)) (d * rsS g.toNat n d i.toNat) := by
  obtain ⟨I, G, N, D, rfl, rfl, rfl, rfl, h1, h2, h3, h4, h5, h6⟩ := ask_nat h
  have hc := all4 chkFw_all h1 h2 h4 h6
  unfold chkFw at hc
  rw [Bool.or_eq_true, Bool.or_eq_true, Bool.or_eq_true, Bool.and_eq_true, beq_iff_eq, beq_iff_eq, beq_iff_eq, beq_iff_eq, beq_iff_eq] at hc
  simp only [Int.toNat_natCast]
  rcases hc with hc | hc | hc | hc
  · omega
  · omega
  · omega
  · exact hc
/-! ### bounds -/
theorem rsF_bd {g : Nat} {n d : Int} (hn : 1 ≤ n) (hd : n ≤ d - 1) (hd6 : d ≤ 6) (hg : g ≤ 12) {j : Nat} (hj : j < g) : 1 ≤ rsF g n d j ∧ rsF g n d j ≤ 48828125 := by
  have e : n ^ (g - 1 - j) * (d - n) ^ j ≤ (5 : Int) ^ (g - 1) := by
    have h1 := pow_mono (x := n) (by omega) (show n ≤ 5 by omega) (g - 1 - j)
    have h2 := pow_mono (x := d - n) (by omega) (show d - n ≤ 5 by omega) j
    have h3 := pow_pos1 (x := d - n) (by omega) j
    have h4 := pow_pos1 (x := (5 : Int)) (by omega) (g - 1 - j)
    have h5 : (5 : Int) ^ (g - 1) = 5 ^ (g - 1 - j) * 5 ^ j := by rw [← Int.pow_add]; congr 1; omega
    rw [h5]
    exact Int.mul_le_mul h1 h2 (by omega) (by omega)
  have h5 : (5 : Int) ^ (g - 1) ≤ 48828125 := by
    have h2 : (5 : Nat) ^ (g - 1) ≤ 5 ^ 11 := Nat.pow_le_pow_right (by omega) (by omega)
    have h3 : (5 : Nat) ^ 11 = 48828125 := by decide
    have h4 := pow_cast 5 (g - 1)
    rw [show ((5 : Nat) : Int) = 5 from rfl] at h4
    omega
  have h6 := pow_pos1 (x := n) hn (g - 1 - j)
  have h7 := pow_pos1 (x := d - n) (by omega) j
  have h8 := Int.mul_le_mul h6 h7 (by omega) (by omega)
  unfold rsF
  omega
theorem sumTo_bd {F : Nat → Int} {B : Int} {m : Nat} (h : ∀ j, j < m → 0 ≤ F j ∧ F j ≤ B) : 0 ≤ sumTo F m ∧ sumTo F m ≤ B * m := by
  induction m with
  | zero => simp [sumTo]
  | succ m ih =>
    have h1 := ih fun j hj => h j (by omega)
    have h2 := h m (by omega)
    show 0 ≤ sumTo F m + F m ∧ sumTo F m + F m ≤ B * ((m + 1 : Nat) : Int)
    rw [show ((m + 1 : Nat) : Int) = m + 1 by omega, Int.mul_add]
    omega
theorem rsS_bd {g : Nat} {n d : Int} (hn : 1 ≤ n) (hd : n ≤ d - 1) (hd6 : d ≤ 6) (hg : g ≤ 12) {m : Nat} (hm : m ≤ g) : 0 ≤ rsS g n d m ∧ rsS g n d m ≤ 585937500 ∧ (1 ≤ m → 0 < rsS g n d m) := by
  have h1 := sumTo_bd (F := rsF g n d) (B := 48828125) (m := m) fun j hj => by
    have := rsF_bd hn hd hd6 hg (j := j) (by omega)
    omega
  refine ⟨h1.1, by unfold rsS; omega, fun hp => ?_⟩
  have h2 := le_sumTo (F := rsF g n d) (m := m) (fun j hj => by have := rsF_bd hn hd hd6 hg (j := j) (by omega); omega) (k := 0) (by omega)
  have h3 := rsF_bd hn hd hd6 hg (j := 0) (by omega)
  unfold rsS
  omega
end Go.Proofs.Ythgblfldncidnaa

/- Bold play: chances as fractions, and as parts of a whole. -/
namespace Go.Proofs.Ythgblfldncidnaa
open Go.RowKit
set_option linter.unusedVariables false
/-- the stake of bold play -/
def boK (g i : Int) : Int := if g - i < i then g - i else i
/-- the chance with bold play, so many games at most -/
def bo (g n d : Int) : Nat → Int → Int × Int
  | 0, i => if i = 0 then (0, 1) else if i = g then (1, 1) else (0, 1)
  | r + 1, i => if i = 0 then (0, 1) else if i = g then (1, 1) else
    (n * (bo g n d r (i + boK g i)).1 * (bo g n d r (i - boK g i)).2 + (d - n) * (bo g n d r (i - boK g i)).1 * (bo g n d r (i + boK g i)).2, d * (bo g n d r (i + boK g i)).2 * (bo g n d r (i - boK g i)).2)
def boB : Nat → Int
  | 0 => 1
  | r + 1 => 6 * boB r * boB r
theorem bo_zero (g n d : Int) : ∀ r, bo g n d r 0 = (0, 1)
  | 0 => by unfold bo; rw [if_pos rfl]
  | r + 1 => by unfold bo; rw [if_pos rfl]
theorem bo_goal (g n d : Int) (hg : g ≠ 0) : ∀ r, bo g n d r g = (1, 1)
  | 0 => by unfold bo; rw [if_neg hg, if_pos rfl]
  | r + 1 => by unfold bo; rw [if_neg hg, if_pos rfl]
theorem boB_pos : ∀ r, 1 ≤ boB r
  | 0 => Int.le_refl _
  | r + 1 => by
    have h := boB_pos r
    have h2 := Int.mul_le_mul_of_nonneg_left h (show 0 ≤ 6 * boB r by omega)
    show 1 ≤ 6 * boB r * boB r
    omega
theorem mul3 {x y z A B C : Int} (hx : 0 ≤ x ∧ x ≤ A) (hy : 0 ≤ y ∧ y ≤ B) (hz : 0 ≤ z ∧ z ≤ C) : 0 ≤ x * y * z ∧ x * y * z ≤ A * B * C :=
  mul_le_of' (mul_le_of' hx hy) hz
theorem bo_bd {g n d : Int} (hn : 0 ≤ n) (hd : n ≤ d) (hd1 : 1 ≤ d) (hd6 : d ≤ 6) : ∀ r i, (0 ≤ (bo g n d r i).1 ∧ (bo g n d r i).1 ≤ (bo g n d r i).2) ∧ 1 ≤ (bo g n d r i).2 ∧ (bo g n d r i).2 ≤ boB r
  | 0, i => by
    unfold bo boB
    repeat' split
    all_goals simp
  | r + 1, i => by
    have hB := boB_pos (r + 1)
    by_cases h0 : i = 0
    · subst h0
      rw [bo_zero]
      simp
      exact hB
    · by_cases h1 : i = g
      · subst h1
        rw [bo_goal _ _ _ h0]
        simp
        exact hB
      · have ha := bo_bd (g := g) hn hd hd1 hd6 r (i + boK g i)
        have hc := bo_bd (g := g) hn hd hd1 hd6 r (i - boK g i)
        have e : bo g n d (r + 1) i = (n * (bo g n d r (i + boK g i)).1 * (bo g n d r (i - boK g i)).2 + (d - n) * (bo g n d r (i - boK g i)).1 * (bo g n d r (i + boK g i)).2, d * (bo g n d r (i + boK g i)).2 * (bo g n d r (i - boK g i)).2) := by
          rw [bo, if_neg h0, if_neg h1]
        rw [e]
        have eB : boB (r + 1) = 6 * boB r * boB r := rfl
        rw [eB]
        simp only
        generalize (bo g n d r (i + boK g i)).1 = a at *
        generalize (bo g n d r (i + boK g i)).2 = b at *
        generalize (bo g n d r (i - boK g i)).1 = c at *
        generalize (bo g n d r (i - boK g i)).2 = q at *
        generalize boB r = B at *
        have m1 := mul3 (x := n) (y := a) (z := q) (A := n) (B := b) (C := q) (by omega) (by omega) (by omega)
        have m2 := mul3 (x := d - n) (y := c) (z := b) (A := d - n) (B := q) (C := b) (by omega) (by omega) (by omega)
        have m3 := mul3 (x := d) (y := b) (z := q) (A := 6) (B := B) (C := B) (by omega) (by omega) (by omega)
        have m4 : n * b * q + (d - n) * q * b = d * b * q := by
          rw [Int.mul_assoc (d - n) q b, Int.mul_comm q b, ← Int.mul_assoc, ← Int.add_mul, ← Int.add_mul]
          congr 2
          omega
        have m5 : 1 ≤ d * b * q := by
          have h1 := Int.mul_pos (show 0 < d by omega) (show 0 < b by omega)
          have h2 := Int.mul_pos h1 (show 0 < q by omega)
          omega
        omega
theorem boB4 {r : Nat} (h : r ≤ 4) : boB r ≤ 470184984576 := by
  match r, h with
  | 0, _ => decide
  | 1, _ => decide
  | 2, _ => decide
  | 3, _ => decide
  | 4, _ => decide
theorem boB3 {r : Nat} (h : r ≤ 3) : boB r ≤ 279936 := by
  match r, h with
  | 0, _ => decide
  | 1, _ => decide
  | 2, _ => decide
  | 3, _ => decide
/-- how many of d ^ r parts win with bold play, in r games at most -/
def bI (g n d : Int) : Nat → Int → Int
  | 0, i => if i = 0 then 0 else 1
  | r + 1, i => if i = 0 then 0 else if i = g then d ^ (r + 1) else n * bI g n d r (i + boK g i) + (d - n) * bI g n d r (i - boK g i)
theorem bI_bd {g n d : Int} (hn : 0 ≤ n) (hd : n ≤ d) (hd1 : 1 ≤ d) : ∀ r i, 0 ≤ bI g n d r i ∧ bI g n d r i ≤ d ^ r
  | 0, i => by
    unfold bI
    rw [Int.pow_zero]
    split <;> omega
  | r + 1, i => by
    have h1 := bI_bd (g := g) hn hd hd1 r (i + boK g i)
    have h2 := bI_bd (g := g) hn hd hd1 r (i - boK g i)
    have h3 := pow_pos1 hd1 r
    have h4 := Int.mul_nonneg hn h1.1
    have h5 := Int.mul_nonneg (show 0 ≤ d - n by omega) h2.1
    have h6 := Int.mul_le_mul_of_nonneg_left h1.2 hn
    have h7 := Int.mul_le_mul_of_nonneg_left h2.2 (show 0 ≤ d - n by omega)
    have h8 : d ^ (r + 1) = n * d ^ r + (d - n) * d ^ r := by rw [← Int.add_mul, Int.pow_succ, Int.mul_comm]; congr 1; omega
    have h9 := pow_pos1 hd1 (r + 1)
    rw [bI]
    generalize n * bI g n d r (i + boK g i) = x1 at *
    generalize (d - n) * bI g n d r (i - boK g i) = x2 at *
    generalize n * d ^ r = x3 at *
    generalize (d - n) * d ^ r = x4 at *
    split
    · omega
    · split <;> omega
def chkBo (I G N D : Nat) : Bool := N == 0 || (!(G == 1 || G == 2 || G == 4 || G == 8) ||
  (numZ (bo G N D 4 I).1 (bo G N D 4 I).2 == numZ (bI G N D 3 I) ((D : Int) ^ 3) && denZ (bo G N D 4 I).1 (bo G N D 4 I).2 == denZ (bI G N D 3 I) ((D : Int) ^ 3)))
theorem chkBo_all : ((List.range 7).all fun D => (List.range D).all fun N => (List.range 13).all fun G => (List.range (G + 1)).all fun I => chkBo I G N D) = true := by decide +kernel
theorem bo_rs {i g n d : Int} (h : askB i g n d = true) (hg : g = 1 ∨ g = 2 ∨ g = 4 ∨ g = 8) :
    numZ (bo g n d 4 i).1 (bo g n d 4 i).2 = numZ (bI g n d 3 i) (d ^ 3) ∧ denZ (bo g n d 4 i).1 (bo g n d 4 i).2 = denZ (bI g n d 3 i) (d ^ 3) := by
  obtain ⟨I, G, N, D, rfl, rfl, rfl, rfl, h1, h2, h3, h4, h5, h6⟩ := ask_nat h
  have hc := all4 chkBo_all h1 h2 h4 h6
  have hG : (G == 1 || G == 2 || G == 4 || G == 8) = true := by
    rcases hg with hg | hg | hg | hg
    · rw [show G = 1 by omega]; rfl
    · rw [show G = 2 by omega]; rfl
    · rw [show G = 4 by omega]; rfl
    · rw [show G = 8 by omega]; rfl
  unfold chkBo at hc
  rw [hG, Bool.not_true, Bool.false_or, Bool.or_eq_true, Bool.and_eq_true, beq_iff_eq, beq_iff_eq, beq_iff_eq] at hc
  rcases hc with hc | hc
  · omega
  · exact hc
end Go.Proofs.Ythgblfldncidnaa
