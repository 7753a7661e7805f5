/- Pack 6 of what FnRecordsTold needs: P8Math, RatioMath. -/
import Derived.Test.YtachijliaedndaaKFnRecordsTold5
/- Numbers of chapter 8: good closed paths by peaks, heights, first runs; records by what is wanting to one. Plain numbers. -/
namespace Go.Proofs.Ytachijliaedndaa
open Go.RowKit
set_option linter.unusedVariables false
def pkF (m k : Nat) : Int := if m = 0 then 1 else if k = 0 then 0 else ((chs m k * chs m (k - 1) / m : Nat) : Int)
def abF (m k : Nat) : Int := ((chs (2 * k) k * chs (2 * (m - k)) (m - k) : Nat) : Int)
def hgA (m j : Nat) : Int := cw 0 (j : Int) (2 * m) 0 0
def hgF (m j : Nat) : Int := hgA m j - (if j = 0 then 0 else hgA m (j - 1))
/-- by what is wanting to a record and by records together -/
def rcD (n s : Nat) : Int := tz n s - tz n ((s : Int) + 2)
theorem rcD_zero (s : Nat) : rcD 0 s = if s = 0 then 1 else 0 := by
  unfold rcD tz
  rw [if_neg (show ¬ ((s : Int) + 2 = 0) by omega)]
  by_cases h : s = 0
  · subst h; rfl
  · rw [if_neg (by omega), if_neg h]; rfl
theorem rcD_far {n s : Nat} (h : n < s) : rcD n s = 0 := by
  unfold rcD
  rw [tz_out n _ (by omega), tz_out n _ (by omega)]
  rfl
theorem rcD_first (n : Nat) : rcD (n + 1) 0 = rcD n 1 := by
  unfold rcD
  have h := tz_neg n 1
  show tz (n + 1) 0 - tz (n + 1) (0 + 2) = tz n 1 - tz n (1 + 2)
  rw [tz, tz]
  show tz n (0 - 1) + tz n (0 + 1) - (tz n (2 - 1) + tz n (2 + 1)) = tz n 1 - tz n 3
  rw [show (0 : Int) - 1 = -1 by omega, h]
  show tz n 1 + tz n 1 - (tz n 1 + tz n 3) = tz n 1 - tz n 3
  omega
theorem rcD_step (n s : Nat) : rcD (n + 1) (s + 1) = rcD n (s + 2) + rcD n s := by
  unfold rcD
  rw [tz, tz, show ((s + 1 : Nat) : Int) - 1 = s by omega, show ((s + 1 : Nat) : Int) + 1 = (s + 2 : Nat) by omega,
    show ((s + 1 : Nat) : Int) + 2 - 1 = (s : Int) + 1 + 1 by omega, show ((s + 1 : Nat) : Int) + 2 + 1 = ((s + 2 : Nat) : Int) + 2 by omega,
    show (s : Int) + 1 + 1 = (s + 2 : Nat) by omega, show (s : Int) + 2 = (s + 2 : Nat) by omega]
  omega
theorem tz_nn : ∀ (n : Nat) (x : Int), 0 ≤ tz n x ∧ tz n x ≤ 2 ^ n
  | 0, x => by unfold tz; split <;> simp
  | n + 1, x => by
    have h1 := tz_nn n (x - 1)
    have h2 := tz_nn n (x + 1)
    rw [tz, Int.pow_succ]
    omega
theorem rcD_bd {n : Nat} (hn : n ≤ 16) (s : Nat) : -65536 ≤ rcD n s ∧ rcD n s ≤ 65536 := by
  unfold rcD
  have h1 := tz_nn n s
  have h2 := tz_nn n ((s : Int) + 2)
  have h3 : (2 : Int) ^ n ≤ 65536 := by
    have : (2 : Nat) ^ n ≤ 2 ^ 16 := Nat.pow_le_pow_right (by omega) hn
    have h4 : ((2 ^ n : Nat) : Int) ≤ ((2 ^ 16 : Nat) : Int) := Int.ofNat_le.2 this
    simpa using h4
  omega
def rcS (n r : Nat) : Nat → Int
  | 0 => 0
  | g + 1 => rcS n r g + rcD n (g + r)
theorem rcS_tel (n r : Nat) : ∀ g : Nat, rcS n r (g + 1) = tz n r + tz n ((r : Int) + 1) - tz n ((r : Int) + g + 1) - tz n ((r : Int) + g + 2)
  | 0 => by
    show 0 + rcD n (0 + r) = _
    rw [Nat.zero_add]
    unfold rcD
    rw [show (r : Int) + ((0 : Nat) : Int) + 1 = r + 1 by omega, show (r : Int) + ((0 : Nat) : Int) + 2 = r + 2 by omega]
    omega
  | g + 1 => by
    rw [rcS, rcS_tel n r g]
    unfold rcD
    rw [show ((g + 1 + r : Nat) : Int) = (r : Int) + g + 1 by omega, show (r : Int) + ((g + 1 : Nat) : Int) + 1 = (r : Int) + g + 2 by omega,
      show (r : Int) + ((g + 1 : Nat) : Int) + 2 = (r : Int) + g + 1 + 2 by omega]
    omega
theorem rcS_all (n r : Nat) : rcS n r (n + 1) = toZ n r + toZ n ((r : Int) + 1) := by
  rw [rcS_tel, tz_out n ((r : Int) + n + 1) (by omega), tz_out n ((r : Int) + n + 2) (by omega), toZ_tz, toZ_tz]
  omega
theorem cw_le (lo hi : Int) : ∀ n s e, cw lo hi n s e ≤ 2 ^ n
  | 0, s, e => by unfold cw; split <;> simp
  | n + 1, s, e => by
    have h1 := cw_le lo hi n (s - 1) e
    have h2 := cw_le lo hi n (s + 1) e
    have h3 : (0 : Int) ≤ 2 ^ n := Int.pow_nonneg (by omega)
    rw [cw, Int.pow_succ]
    split <;> split <;> omega
theorem hgA_bd {m : Nat} (hm : m ≤ 15) (j : Nat) : 0 ≤ hgA m j ∧ hgA m j ≤ 1073741824 := by
  refine ⟨cw_nn _ _ _ _ _, ?_⟩
  unfold hgA
  have h1 := cw_le 0 (j : Int) (2 * m) 0 0
  have h3 : (2 : Int) ^ (2 * m) ≤ 1073741824 := by
    have : (2 : Nat) ^ (2 * m) ≤ 2 ^ 30 := Nat.pow_le_pow_right (by omega) (by omega)
    have h4 : ((2 ^ (2 * m) : Nat) : Int) ≤ ((2 ^ 30 : Nat) : Int) := Int.ofNat_le.2 this
    simpa using h4
  omega
theorem hgF_bd {m : Nat} (hm : m ≤ 15) (j : Nat) : -1073741824 ≤ hgF m j ∧ hgF m j ≤ 1073741824 := by
  have h1 := hgA_bd hm j
  have h2 := hgA_bd hm (j - 1)
  unfold hgF
  split <;> omega
/-! ### first runs -/
def chkFr (m k : Nat) : Bool := m == 0 || (k == 0 || (m < k || pAt (2 * m - k) m * k / (2 * m - k) + pAt (2 * m - k - 1) m == pAt (2 * m - k - 1) (m - 1)))
theorem chkFr_all : ((List.range 16).all fun m => (List.range 16).all fun k => chkFr m k) = true := by decide +kernel
theorem first_run {m k : Nat} (hm : m ≤ 15) (h0 : 1 ≤ k) (hk : k ≤ m) : chs (2 * m - k) m * k / (2 * m - k) + chs (2 * m - k - 1) m = chs (2 * m - k - 1) (m - 1) := by
  have h1 := all_range (all_range chkFr_all (show m < 16 by omega)) (show k < 16 by omega)
  unfold chkFr at h1
  rw [Bool.or_eq_true, Bool.or_eq_true, Bool.or_eq_true, beq_iff_eq, beq_iff_eq, decide_eq_true_eq, beq_iff_eq] at h1
  rw [chs_tab _ _ (by omega) (by omega), chs_tab _ _ (by omega) (by omega), chs_tab _ _ (by omega) (by omega)]
  rcases h1 with h1 | h1 | h1 | h1
  · omega
  · omega
  · omega
  · exact h1
/-! ### the ways within a height, by rows -/
def wyF (h k x : Nat) : Int := cw 0 (h : Int) k (x : Int) 0
/-- the next row while the rows' entries below j are done -/
def wyP (h k j i : Nat) : Int := (if 0 < i ∧ i ≤ j then wyF h k (i - 1) else 0) + (if i + 1 < j then wyF h k (i + 1) else 0)
theorem wyF_nn (h k x : Nat) : 0 ≤ wyF h k x := cw_nn _ _ _ _ _
theorem wyF_bd {k : Nat} (hk : k ≤ 30) (h x : Nat) : 0 ≤ wyF h k x ∧ wyF h k x ≤ 1073741824 := by
  refine ⟨cw_nn _ _ _ _ _, ?_⟩
  unfold wyF
  have h1 := cw_le 0 (h : Int) k (x : Int) 0
  have h3 : (2 : Int) ^ k ≤ 1073741824 := by
    have : (2 : Nat) ^ k ≤ 2 ^ 30 := Nat.pow_le_pow_right (by omega) (by omega)
    have h4 : ((2 ^ k : Nat) : Int) ≤ ((2 ^ 30 : Nat) : Int) := Int.ofNat_le.2 this
    simpa using h4
  omega
theorem wyP_bd {k : Nat} (hk : k ≤ 30) (h j i : Nat) : 0 ≤ wyP h k j i ∧ wyP h k j i ≤ 2147483648 := by
  have h1 := wyF_bd hk h (i - 1)
  have h2 := wyF_bd hk h (i + 1)
  unfold wyP
  split <;> split <;> omega
theorem wyP_zero (h k n : Nat) : List.replicate n (0 : Int) = fr (wyP h k 0) n := by
  apply List.ext_getElem
  · simp [fr]
  · intro i h1 h2
    simp only [fr, List.getElem_replicate, List.getElem_map, List.getElem_range, wyP]
    rw [if_neg (by omega), if_neg (by omega)]
    rfl
theorem wyP_all {h k i : Nat} (hi : i < h + 1) : wyP h k (h + 1) i = wyF h (k + 1) i := by
  unfold wyP wyF
  rw [cw]
  congr 1
  · by_cases e : 0 < i
    · rw [if_pos ⟨e, by omega⟩, if_pos (by omega), show ((i - 1 : Nat) : Int) = (i : Int) - 1 by omega]
    · rw [if_neg (by omega), if_neg (by omega)]
  · by_cases e : i + 1 < h + 1
    · rw [if_pos e, if_pos (by omega)]
      rfl
    · rw [if_neg e, if_neg (by omega)]
theorem wyP_up (h k j : Nat) : wyP h k (j + 1) (j + 1) = wyP h k j (j + 1) + wyF h k j := by
  unfold wyP
  rw [if_pos ⟨by omega, by omega⟩, if_neg (by omega), if_neg (by omega), if_neg (by omega)]
  simp
theorem wyP_down (h k j : Nat) : wyP h k (j + 1 + 1) j = wyP h k (j + 1) j + wyF h k (j + 1) := by
  unfold wyP
  rw [if_pos (show j + 1 < j + 1 + 1 by omega), if_neg (show ¬ j + 1 < j + 1 by omega)]
  by_cases e : 0 < j
  · rw [if_pos ⟨e, by omega⟩, if_pos ⟨e, by omega⟩]; omega
  · rw [if_neg (by omega), if_neg (by omega)]; omega
theorem wyP_same (h k j i : Nat) (h1 : i ≠ j + 1) (h2 : i + 1 ≠ j) : wyP h k j i = wyP h k (j + 1) i := by
  unfold wyP
  congr 1
  · by_cases e : 0 < i ∧ i ≤ j
    · rw [if_pos e, if_pos ⟨e.1, by omega⟩]
    · rw [if_neg e, if_neg (by omega)]
  · by_cases e : i + 1 < j
    · rw [if_pos e, if_pos (by omega)]
    · rw [if_neg e, if_neg (by omega)]
theorem frw_set1 (f g : Nat → Int) (n a : Nat) (h : ∀ j, j < n → j ≠ a → f j = g j) : (fr f n).set a (g a) = fr g n := by
  apply List.ext_getElem
  · simp [fr]
  · intro i h1 h2
    have hi : i < n := by simpa [fr] using h2
    rw [List.getElem_set]
    by_cases e1 : a = i
    · subst e1; simp [fr]
    · rw [if_neg e1]
      simpa [fr] using h i hi (fun x => e1 x.symm)
theorem frw_set2 (f g : Nat → Int) (n a b : Nat) (h : ∀ j, j < n → j ≠ a → j ≠ b → f j = g j) : ((fr f n).set a (g a)).set b (g b) = fr g n := by
  apply List.ext_getElem
  · simp [fr]
  · intro i h1 h2
    have hi : i < n := by simpa [fr] using h2
    rw [List.getElem_set, List.getElem_set]
    by_cases e1 : b = i
    · subst e1; simp [fr]
    · rw [if_neg e1]
      by_cases e2 : a = i
      · subst e2; simp [fr]
      · rw [if_neg e2]
        simpa [fr] using h i hi (fun x => e2 x.symm) (fun x => e1 x.symm)
theorem frw_congr {f g : Nat → Int} {n : Nat} (h : ∀ j, j < n → f j = g j) : fr f n = fr g n := by
  apply List.ext_getElem
  · simp [fr]
  · intro i h1 h2
    have hi : i < n := by simpa [fr] using h2
    simpa [fr] using h i hi
/-- the first entry, of a row of more than one -/
theorem wyP_set0 (h k : Nat) : (fr (wyP h k 0) (h + 1)).set 1 (wyP h k 1 1) = fr (wyP h k 1) (h + 1) :=
  frw_set1 _ _ _ _ fun j _ h1 => wyP_same h k 0 j h1 (by omega)
/-- the first entry where there is no other -/
theorem wyP_one (k : Nat) : fr (wyP 0 k 0) 1 = fr (wyP 0 k 1) 1 := frw_congr fun j hj => wyP_same 0 k 0 j (by omega) (by omega)
/-- one in the middle: that below it, that above it -/
theorem wyP_set (h k p : Nat) : ((fr (wyP h k (p + 1)) (h + 1)).set p (wyP h k (p + 1 + 1) p)).set (p + 1 + 1) (wyP h k (p + 1 + 1) (p + 1 + 1)) = fr (wyP h k (p + 1 + 1)) (h + 1) :=
  frw_set2 _ _ _ _ _ fun j _ h1 h2 => wyP_same h k (p + 1) j h2 (by omega)
/-- the last one -/
theorem wyP_end (k p : Nat) : (fr (wyP (p + 1) k (p + 1)) (p + 1 + 1)).set p (wyP (p + 1) k (p + 1 + 1) p) = fr (wyP (p + 1) k (p + 1 + 1)) (p + 1 + 1) :=
  frw_set1 _ _ _ _ fun j hj h1 => wyP_same (p + 1) k (p + 1) j (by omega) (by omega)
theorem wyF_first (h n : Nat) : (List.replicate (n + 1) (0 : Int)).set 0 1 = fr (wyF h 0) (n + 1) := by
  apply List.ext_getElem
  · simp [fr]
  · intro i h1 h2
    simp only [fr, List.getElem_set, List.getElem_replicate, List.getElem_map, List.getElem_range, wyF, cw]
    by_cases e : i = 0
    · subst e; rfl
    · rw [if_neg (fun x => e x.symm), if_neg (by omega)]
end Go.Proofs.Ytachijliaedndaa

/- Fractions in lowest terms. -/
namespace Go.Proofs.Ytachijliaedndaa
open Go.RowKit
theorem gcd_step {x y g : Nat} (h : Nat.gcd x y = g) : Nat.gcd y (x % y) = g := by
  rw [← h, Nat.gcd_comm x y, Nat.gcd_rec y x, Nat.gcd_comm]
theorem gcd_end {x g : Nat} (h : Nat.gcd x 0 = g) : x = g := by simpa using h
theorem cast_mod (x y : Nat) : (x : Int) % (y : Int) = ((x % y : Nat) : Int) := (Int.natCast_emod x y).symm
theorem cast_div (x y : Nat) : (x : Int) / (y : Int) = ((x / y : Nat) : Int) := (Int.natCast_ediv x y).symm
theorem div_bd (p x : Nat) (h : p ≤ 70368744177664) : 0 ≤ (p : Int) / (x : Int) ∧ (p : Int) / (x : Int) ≤ 70368744177664 := by
  rw [cast_div]
  have := Nat.div_le_self p x
  generalize p / x = z at *
  omega
def numR (p q : Nat) : Int := ((p / Nat.gcd p q : Nat) : Int)
def denR (p q : Nat) : Int := ((q / Nat.gcd p q : Nat) : Int)
end Go.Proofs.Ytachijliaedndaa
