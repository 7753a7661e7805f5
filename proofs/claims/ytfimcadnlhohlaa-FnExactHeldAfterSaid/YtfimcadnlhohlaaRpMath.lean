/- Sums that the program takes for its gamblers, against the model's fractions. Plain numbers; finitely many by the kernel. -/
import Derived.Test.YtfimcadnlhohlaaHwMath
namespace Go.Proofs.Ytfimcadnlhohlaa
open Go.RowKit
set_option linter.unusedVariables false
/-- the rise with j + 1 held -/
def rsF (g : Nat) (n d : Int) (j : Nat) : Int := n ^ (g - 1 - j) * (d - n) ^ j
def rsS (g : Nat) (n d : Int) (m : Nat) : Int := sumTo (rsF g n d) m
theorem all4 {f : Nat → Nat → Nat → Nat → Bool} (h : ((List.range 7).all fun D => (List.range D).all fun N => (List.range 13).all fun G => (List.range (G + 1)).all fun I => f I G N D) = true) {I G N D : Nat} (hD : D < 7) (hN : N < D) (hG : G < 13) (hI : I ≤ G) : f I G N D = true := by
  rw [List.all_eq_true] at h
  have h1 := h D (List.mem_range.2 hD)
  rw [List.all_eq_true] at h1
  have h2 := h1 N (List.mem_range.2 hN)
  rw [List.all_eq_true] at h2
  have h3 := h2 G (List.mem_range.2 hG)
  rw [List.all_eq_true] at h3
  exact h3 I (List.mem_range.2 (by omega))
def chkWin (I G N D : Nat) : Bool := N == 0 || (G == 0 || (winP I G N D == numZ (rsS G N D I) (rsS G N D G) && winQ I G N D == denZ (rsS G N D I) (rsS G N D G)))
theorem chkWin_all : ((List.range 7).all fun D => (List.range D).all fun N => (List.range 13).all fun G => (List.range (G + 1)).all fun I => chkWin I G N D) = true := by decide +kernel
theorem ask_nat {i g n d : Int} (h : askB i g n d = true) : ∃ I G N D : Nat, i = I ∧ g = G ∧ n = N ∧ d = D ∧ D < 7 ∧ N < D ∧ 0 < N ∧ G < 13 ∧ 0 < G ∧ I ≤ G := by
  obtain ⟨h1, h2, h3, h4⟩ := askB_of h
  exact ⟨i.toNat, g.toNat, n.toNat, d.toNat, by omega, by omega, by omega, by omega, by omega, by omega, by omega, by omega, by omega, by omega⟩
theorem win_rs {i g n d : Int} (h : askB i g n d = true) : winP i g n d = numZ (rsS g.toNat n d i.toNat) (rsS g.toNat n d g.toNat) ∧ winQ i g n d = denZ (rsS g.toNat n d i.toNat) (rsS g.toNat n d g.toNat) := by
  obtain ⟨I, G, N, D, rfl, rfl, rfl, rfl, h1, h2, h3, h4, h5, h6⟩ := ask_nat h
  have hc := all4 chkWin_all h1 h2 h4 h6
  unfold chkWin at hc
  rw [Bool.or_eq_true, Bool.or_eq_true, Bool.and_eq_true, beq_iff_eq, beq_iff_eq, beq_iff_eq, beq_iff_eq] at hc
  simp only [Int.toNat_natCast]
  rcases hc with hc | hc | hc
  · omega
  · omega
  · exact hc
def maxN (x : Int) : Int := max x (-x)
/-- the mean number of games as the program takes it -/
def mgA (i g n d : Int) : Int := numZ (g * winP i g n d) (winQ i g n d) - i * denZ (g * winP i g n d) (winQ i g n d)
def mgE (n d : Int) : Int := n - (d - n)
def mgX (i g n d : Int) : Int := maxN (mgA i g n d) * d
def mgY (i g n d : Int) : Int := maxN (mgE n d) * denZ (g * winP i g n d) (winQ i g n d)
def mgM (i g n d : Int) : Int := (g * winP i g n d - i * winQ i g n d) * d
def mgW (i g n d : Int) : Int := winQ i g n d * (n - (d - n))
def chkMg (I G N D : Nat) : Bool := N == 0 || (G == 0 || ((N : Int) == (D : Int) - N || (if mgW I G N D < 0 then numZ (-mgM I G N D) (-mgW I G N D) == numZ (mgX I G N D) (mgY I G N D) && denZ (-mgM I G N D) (-mgW I G N D) == denZ (mgX I G N D) (mgY I G N D)
  else numZ (mgM I G N D) (mgW I G N D) == numZ (mgX I G N D) (mgY I G N D) && denZ (mgM I G N D) (mgW I G N D) == denZ (mgX I G N D) (mgY I G N D))))
theorem chkMg_all : ((List.range 7).all fun D => (List.range D).all fun N => (List.range 13).all fun G => (List.range (G + 1)).all fun I => chkMg I G N D) = true := by decide +kernel
theorem mg_rs {i g n d : Int} (h : askB i g n d = true) (hne : n ≠ d - n) :
    (if mgW i g n d < 0 then numZ (-mgM i g n d) (-mgW i g n d) else numZ (mgM i g n d) (mgW i g n d)) = numZ (mgX i g n d) (mgY i g n d) ∧
    (if mgW i g n d < 0 then denZ (-mgM i g n d) (-mgW i g n d) else denZ (mgM i g n d) (mgW i g n d)) = denZ (mgX i g n d) (mgY i g n d) := by
  obtain ⟨I, G, N, D, rfl, rfl, rfl, rfl, h1, h2, h3, h4, h5, h6⟩ := ask_nat h
  have hc := all4 chkMg_all h1 h2 h4 h6
  unfold chkMg at hc
  rw [Bool.or_eq_true, Bool.or_eq_true, Bool.or_eq_true, beq_iff_eq, beq_iff_eq, beq_iff_eq] at hc
  rcases hc with hc | hc | hc | hc
  · omega
  · omega
  · exact absurd hc hne
  · by_cases hw : mgW I G N D < 0
    · simp only [if_pos hw] at hc ⊢
      rwa [Bool.and_eq_true, beq_iff_eq, beq_iff_eq] at hc
    · simp only [if_neg hw] at hc ⊢
      rwa [Bool.and_eq_true, beq_iff_eq, beq_iff_eq] at hc
/-- a fair game is one of 1 / 2 -/
def chkHalf (I G N D : Nat) : Bool := !((N : Int) == (D : Int) - N && ruB N D) || (N == 1 && D == 2)
theorem chkHalf_all : ((List.range 7).all fun D => (List.range D).all fun N => (List.range 13).all fun G => (List.range (G + 1)).all fun I => chkHalf I G N D) = true := by decide +kernel
theorem half_of {n d : Int} (h : ruB n d = true) (he : n = d - n) : n = 1 ∧ d = 2 := by
  have hb := ruB_of h
  obtain ⟨N, rfl⟩ := Int.eq_ofNat_of_zero_le (show 0 ≤ n by omega)
  obtain ⟨D, rfl⟩ := Int.eq_ofNat_of_zero_le (show 0 ≤ d by omega)
  have hc := all4 chkHalf_all (D := D) (N := N) (G := 0) (I := 0) (by omega) (by omega) (by omega) (by omega)
  unfold chkHalf at hc
  rw [h, show ((N : Int) == (D : Int) - N) = true by rw [beq_iff_eq]; exact he] at hc
  simp only [Bool.and_self, Bool.not_true, Bool.false_or, Bool.and_eq_true, beq_iff_eq] at hc
  omega
/-- the first game won, of those who win -/
def fxA (i g n d : Int) : Int := numZ (n * winP (i + 1) g n d) (d * winQ (i + 1) g n d)
def fxB (i g n d : Int) : Int := denZ (n * winP (i + 1) g n d) (d * winQ (i + 1) g n d)
def chkFw (I G N D : Nat) : Bool := N == 0 || (I == 0 || (I == G ||
  (numZ (fxA I G N D * winQ I G N D) (fxB I G N D * winP I G N D) == numZ (N * rsS G N D (I + 1)) (D * rsS G N D I) && denZ (fxA I G N D * winQ I G N D) (fxB I G N D * winP I G N D) == denZ (N * rsS G N D (I + 1)) (D * rsS G N D I))))
theorem chkFw_all : ((List.range 7).all fun D => (List.range D).all fun N => (List.range 13).all fun G => (List.range (G + 1)).all fun I => chkFw I G N D) = true := by decide +kernel
theorem fw_rs {i g n d : Int} (h : askB i g n d = true) (hi : 1 ≤ i ∧ i ≤ g - 1) :
    numZ (fxA i g n d * winQ i g n d) (fxB i g n d * winP i g n d) = numZ (n * rsS g.toNat n d (i.toNat + 1)) (d * rsS g.toNat n d i.toNat) ∧
    denZ (fxA i g n d * winQ i g n d) (fxB i g n d * winP i g n d) = denZ (n * rsS g.toNat n d (i.toNat + 1)) (d * rsS g.toNat n d i.toNat) := by
  obtain ⟨I, G, N, D, rfl, rfl, rfl, rfl, h1, h2, h3, h4, h5, h6⟩ := ask_nat h
  have hc := all4 chkFw_all h1 h2 h4 h6
  unfold chkFw at hc
  rw [Bool.or_eq_true, Bool.or_eq_true, Bool.or_eq_true, Bool.and_eq_true, beq_iff_eq, beq_iff_eq, beq_iff_eq, beq_iff_eq, beq_iff_eq] at hc
  simp only [Int.toNat_natCast]
  rcases hc with hc | hc | hc | hc
  · omega
  · omega
  · omega
  · exact hc
/-! ### bounds -/
theorem rsF_bd {g : Nat} {n d : Int} (hn : 1 ≤ n) (hd : n ≤ d - 1) (hd6 : d ≤ 6) (hg : g ≤ 12) {j : Nat} (hj : j < g) : 1 ≤ rsF g n d j ∧ rsF g n d j ≤ 48828125 := by
  have e : n ^ (g - 1 - j) * (d - n) ^ j ≤ (5 : Int) ^ (g - 1) := by
    have h1 := pow_mono (x := n) (by omega) (show n ≤ 5 by omega) (g - 1 - j)
    have h2 := pow_mono (x := d - n) (by omega) (show d - n ≤ 5 by omega) j
    have h3 := pow_pos1 (x := d - n) (by omega) j
    have h4 := pow_pos1 (x := (5 : Int)) (by omega) (g - 1 - j)
    have h5 : (5 : Int) ^ (g - 1) = 5 ^ (g - 1 - j) * 5 ^ j := by rw [← Int.pow_add]; congr 1; omega
    rw [h5]
    exact Int.mul_le_mul h1 h2 (by omega) (by omega)
  have h5 : (5 : Int) ^ (g - 1) ≤ 48828125 := by
    have h2 : (5 : Nat) ^ (g - 1) ≤ 5 ^ 11 := Nat.pow_le_pow_right (by omega) (by omega)
    have h3 : (5 : Nat) ^ 11 = 48828125 := by decide
    have h4 := pow_cast 5 (g - 1)
    rw [show ((5 : Nat) : Int) = 5 from rfl] at h4
    omega
  have h6 := pow_pos1 (x := n) hn (g - 1 - j)
  have h7 := pow_pos1 (x := d - n) (by omega) j
  have h8 := Int.mul_le_mul h6 h7 (by omega) (by omega)
  unfold rsF
  omega
theorem sumTo_bd {F : Nat → Int} {B : Int} {m : Nat} (h : ∀ j, j < m → 0 ≤ F j ∧ F j ≤ B) : 0 ≤ sumTo F m ∧ sumTo F m ≤ B * m := by
  induction m with
  | zero => simp [sumTo]
  | succ m ih =>
    have h1 := ih fun j hj => h j (by omega)
    have h2 := h m (by omega)
    show 0 ≤ sumTo F m + F m ∧ sumTo F m + F m ≤ B * ((m + 1 : Nat) : Int)
    rw [show ((m + 1 : Nat) : Int) = m + 1 by omega, Int.mul_add]
    omega
theorem rsS_bd {g : Nat} {n d : Int} (hn : 1 ≤ n) (hd : n ≤ d - 1) (hd6 : d ≤ 6) (hg : g ≤ 12) {m : Nat} (hm : m ≤ g) : 0 ≤ rsS g n d m ∧ rsS g n d m ≤ 585937500 ∧ (1 ≤ m → 0 < rsS g n d m) := by
  have h1 := sumTo_bd (F := rsF g n d) (B := 48828125) (m := m) fun j hj => by
    have := rsF_bd hn hd hd6 hg (j := j) (by omega)
    omega
  refine ⟨h1.1, by unfold rsS; omega, fun hp => ?_⟩
  have h2 := le_sumTo (F := rsF g n d) (m := m) (fun j hj => by have := rsF_bd hn hd hd6 hg (j := j) (by omega); omega) (k := 0) (by omega)
  have h3 := rsF_bd hn hd hd6 hg (j := 0) (by omega)
  unfold rsS
  omega
end Go.Proofs.Ytfimcadnlhohlaa
