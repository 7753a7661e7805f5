/- Pack 9 of what FnExactVotesOfTable needs: ShMath, DetMath. -/
import Derived.Test.YtmfcknlpbliehaaDoorKFnExactVotesOfTable8
/- Shifted moments: sums with binomial numbers. -/
namespace Go.Proofs.YtmfcknlpbliehaaDoor
open Go.RowKit
set_option linter.unusedVariables false
/-- the sum for n, its first t parts, from the last moment down -/
def shP (k : Int) (ms : List Int) (n : Nat) : Nat → Int
  | 0 => 0
  | t + 1 => shP k ms n t + ((chs n (n - t) : Nat) : Int) * k ^ t * ms.getD (n - t) 0
theorem shP_succ (k : Int) (ms : List Int) (n t : Nat) : shP k ms n (t + 1) = shP k ms n t + ((chs n (n - t) : Nat) : Int) * k ^ t * ms.getD (n - t) 0 := rfl
/-- the moments if k is added to all weights -/
def shL (ms : List Int) (k : Int) : List Int := fr (fun n => shP k ms n (n + 1)) ms.length
theorem abs_mul {x y : Int} {A B : Nat} (hx : -(A : Int) ≤ x ∧ x ≤ A) (hy : -(B : Int) ≤ y ∧ y ≤ B) : -((A * B : Nat) : Int) ≤ x * y ∧ x * y ≤ ((A * B : Nat) : Int) := by
  have h1 : x.natAbs ≤ A := by omega
  have h2 : y.natAbs ≤ B := by omega
  have h3 : (x * y).natAbs ≤ A * B := by rw [Int.natAbs_mul]; exact Nat.mul_le_mul h1 h2
  omega
theorem pow_abs {k : Int} {A : Nat} (hk : -(A : Int) ≤ k ∧ k ≤ A) : ∀ t : Nat, -((A ^ t : Nat) : Int) ≤ k ^ t ∧ k ^ t ≤ ((A ^ t : Nat) : Int)
  | 0 => by simp
  | t + 1 => by
    rw [Int.pow_succ, Nat.pow_succ]
    exact abs_mul (pow_abs hk t) hk
theorem pow9 {k : Int} (hk : -9 ≤ k ∧ k ≤ 9) {t : Nat} (ht : t ≤ 8) : -43046721 ≤ k ^ t ∧ k ^ t ≤ 43046721 := by
  have h1 := pow_abs (k := k) (A := 9) (by omega) t
  have h2 : (9 : Nat) ^ t ≤ 9 ^ 8 := Nat.pow_le_pow_right (by omega) ht
  have h3 : (9 : Nat) ^ 8 = 43046721 := by decide
  omega
theorem pow97 {k : Int} (hk : -9 ≤ k ∧ k ≤ 9) {t : Nat} (ht : t ≤ 7) : -4782969 ≤ k ^ t ∧ k ^ t ≤ 4782969 := by
  have h1 := pow_abs (k := k) (A := 9) (by omega) t
  have h2 : (9 : Nat) ^ t ≤ 9 ^ 7 := Nat.pow_le_pow_right (by omega) ht
  have h3 : (9 : Nat) ^ 7 = 4782969 := by decide
  omega
theorem chs7 {n i : Nat} (hn : n ≤ 7) : 0 ≤ ((chs n i : Nat) : Int) ∧ ((chs n i : Nat) : Int) ≤ 128 := by
  have h1 := chs_le n i
  have h2 : (2 : Nat) ^ n ≤ 2 ^ 7 := Nat.pow_le_pow_right (by omega) hn
  have h3 : (2 : Nat) ^ 7 = 128 := by decide
  omega
theorem sh_c {n i t : Nat} {k : Int} (hn : n ≤ 7) (hk : -9 ≤ k ∧ k ≤ 9) (ht : t ≤ 7) : -612220032 ≤ ((chs n i : Nat) : Int) * k ^ t ∧ ((chs n i : Nat) : Int) * k ^ t ≤ 612220032 := by
  have h1 := chs7 (n := n) (i := i) hn
  have h2 := pow97 hk ht
  have h3 := abs_mul (A := 128) (B := 4782969) (x := ((chs n i : Nat) : Int)) (y := k ^ t) (by omega) (by omega)
  omega
theorem sh_t {n i t : Nat} {k m : Int} (hn : n ≤ 7) (hk : -9 ≤ k ∧ k ≤ 9) (ht : t ≤ 7) (hm : -1000000000 ≤ m ∧ m ≤ 1000000000) :
    -612220032000000000 ≤ ((chs n i : Nat) : Int) * k ^ t * m ∧ ((chs n i : Nat) : Int) * k ^ t * m ≤ 612220032000000000 := by
  have h1 := sh_c (i := i) hn hk ht
  have h3 := abs_mul (A := 612220032) (B := 1000000000) (x := ((chs n i : Nat) : Int) * k ^ t) (y := m) (by omega) (by omega)
  omega
theorem sh_p {k : Int} {ms : List Int} {n : Nat} (hn : n ≤ 7) (hk : -9 ≤ k ∧ k ≤ 9) (hm : ∀ i, i ≤ n → -1000000000 ≤ ms.getD i 0 ∧ ms.getD i 0 ≤ 1000000000) : ∀ t, t ≤ n + 1 → -(612220032000000000 * (t : Int)) ≤ shP k ms n t ∧ shP k ms n t ≤ 612220032000000000 * (t : Int)
  | 0, _ => by simp [shP]
  | t + 1, ht => by
    have h1 := sh_p hn hk hm t (by omega)
    have h2 := sh_t (n := n) (i := n - t) hn hk (show t ≤ 7 by omega) (hm (n - t) (by omega))
    rw [shP_succ]
    generalize ((chs n (n - t) : Nat) : Int) * k ^ t * ms.getD (n - t) 0 = x at *
    omega
def momB (xs : List Int) : Bool := inBd 1 8 (xs.length : Nat) && allB xs (-1000000000) 1000000000
theorem momB_of {xs : List Int} (h : momB xs = true) : (1 ≤ xs.length ∧ xs.length ≤ 8) ∧ ∀ k, k < xs.length → -1000000000 ≤ xs.getD k 0 ∧ xs.getD k 0 ≤ 1000000000 := by
  unfold momB allB inBd at h
  simp only [Bool.and_eq_true, decide_eq_true_eq, List.all_eq_true] at h
  refine ⟨by omega, fun k hk => ?_⟩
  rw [List.getD_eq_getElem?_getD, List.getElem?_eq_getElem hk]
  exact h.2 _ (List.getElem_mem hk)
def shOk (ms : List Int) (k : Int) : Bool := (momB ms && inBd (-9) 9 k) && momB (shL ms k)
def shV (ms : List Int) (k : Int) : List Int := if shOk ms k = true then shL ms k else []
end Go.Proofs.YtmfcknlpbliehaaDoor

/- Determinants by their first rows; Hankel determinants. -/
namespace Go.Proofs.YtmfcknlpbliehaaDoor
open Go.RowKit
set_option linter.unusedVariables false
/-- the rows but the first, each without its place j -/
def minr (xss : List (List Int)) (j : Nat) : List (List Int) := (xss.drop 1).map fun r => r.take j ++ r.drop (j + 1)
def sgn : Nat → Int
  | 0 => 1
  | j + 1 => -sgn j
def dtS (f : Nat → Int) : Nat → Int
  | 0 => 0
  | j + 1 => dtS f j + f j
def detF : Nat → List (List Int) → Int
  | 0, _ => 1
  | n + 1, xss => dtS (fun j => sgn j * (xss.getD 0 []).getD j 0 * detF n (minr xss j)) (n + 1)
/-- a square of numbers of a size of at most 10000 -/
def Sq (n : Nat) (xss : List (List Int)) : Prop := xss.length = n ∧ ∀ i, i < n → (xss.getD i []).length = n ∧ ∀ j, j < n → -10000 ≤ (xss.getD i []).getD j 0 ∧ (xss.getD i []).getD j 0 ≤ 10000
theorem minr_length (xss : List (List Int)) (j : Nat) : (minr xss j).length = xss.length - 1 := by simp [minr]
theorem minr_get (xss : List (List Int)) (j i : Nat) (h : i + 1 < xss.length) : (minr xss j).getD i [] = (xss.getD (i + 1) []).take j ++ (xss.getD (i + 1) []).drop (j + 1) := by
  unfold minr
  rw [List.getD_eq_getElem?_getD, List.getElem?_map, List.getElem?_drop, Nat.add_comm 1 i, List.getElem?_eq_getElem h, List.getD_eq_getElem?_getD, List.getElem?_eq_getElem h]
  rfl
theorem cut_length {r : List Int} {n j : Nat} (hr : r.length = n + 1) (hj : j < n + 1) : (r.take j ++ r.drop (j + 1)).length = n := by
  rw [List.length_append, List.length_take, List.length_drop]
  omega
theorem cut_get {r : List Int} {n j k : Nat} (hr : r.length = n + 1) (hj : j < n + 1) (hk : k < n) : (r.take j ++ r.drop (j + 1)).getD k 0 = if k < j then r.getD k 0 else r.getD (k + 1) 0 := by
  rw [List.getD_eq_getElem?_getD, List.getElem?_append, List.length_take]
  by_cases h : k < j
  · rw [if_pos (by omega), if_pos h, List.getElem?_take, if_pos h, ← List.getD_eq_getElem?_getD]
  · rw [if_neg (by omega), if_neg h, List.getElem?_drop, ← List.getD_eq_getElem?_getD]
    congr 1
    omega
theorem minr_sq {n : Nat} {xss : List (List Int)} (h : Sq (n + 1) xss) {j : Nat} (hj : j < n + 1) : Sq n (minr xss j) := by
  obtain ⟨hl, hr⟩ := h
  refine ⟨by rw [minr_length, hl]; rfl, fun i hi => ?_⟩
  obtain ⟨h1, h2⟩ := hr (i + 1) (by omega)
  rw [minr_get _ _ _ (by omega)]
  refine ⟨cut_length h1 hj, fun k hk => ?_⟩
  rw [cut_get h1 hj hk]
  split
  · exact h2 k (by omega)
  · exact h2 (k + 1) (by omega)
def dB : Nat → Nat
  | 0 => 1
  | n + 1 => (n + 1) * (10000 * dB n)
theorem dB_small {n : Nat} (h : n ≤ 4) : dB n ≤ 240000000000000000 := by
  match n, h with
  | 0, _ => decide
  | 1, _ => decide
  | 2, _ => decide
  | 3, _ => decide
  | 4, _ => decide
theorem dB3 {n : Nat} (h : n ≤ 3) : dB n ≤ 6000000000000 := by
  match n, h with
  | 0, _ => decide
  | 1, _ => decide
  | 2, _ => decide
  | 3, _ => decide
theorem sgn_bd : ∀ j, sgn j = 1 ∨ sgn j = -1
  | 0 => .inl rfl
  | j + 1 => by
    show -sgn j = 1 ∨ -sgn j = -1
    rcases sgn_bd j with h | h <;> omega
theorem dtS_bd {f : Nat → Int} {B : Nat} : ∀ n, (∀ j, j < n → -(B : Int) ≤ f j ∧ f j ≤ B) → -((n * B : Nat) : Int) ≤ dtS f n ∧ dtS f n ≤ ((n * B : Nat) : Int)
  | 0, _ => by simp [dtS]
  | n + 1, h => by
    have h1 := dtS_bd n fun j hj => h j (by omega)
    have h2 := h n (by omega)
    rw [Nat.succ_mul]
    show _ ≤ dtS f n + f n ∧ dtS f n + f n ≤ _
    omega
theorem sx_bd {j : Nat} {x : Int} (hx : -10000 ≤ x ∧ x ≤ 10000) : -10000 ≤ sgn j * x ∧ sgn j * x ≤ 10000 := by
  rcases sgn_bd j with h | h <;> rw [h] <;> omega
theorem detF_bd : ∀ n xss, Sq n xss → -(dB n : Int) ≤ detF n xss ∧ detF n xss ≤ dB n
  | 0, _, _ => by simp [detF, dB]
  | n + 1, xss, h => by
    show _ ≤ dtS _ (n + 1) ∧ dtS _ (n + 1) ≤ _
    refine dtS_bd (B := 10000 * dB n) (n + 1) fun j hj => ?_
    exact abs_mul (A := 10000) (sx_bd (j := j) ((h.2 0 (by omega)).2 j hj)) (detF_bd n _ (minr_sq h hj))
/-- what is added for the place j -/
def dtT (n : Nat) (xss : List (List Int)) (j : Nat) : Int := sgn j * (xss.getD 0 []).getD j 0 * detF n (minr xss j)
theorem detF_succ (n : Nat) (xss : List (List Int)) : detF (n + 1) xss = dtS (dtT n xss) (n + 1) := rfl
theorem dtT_bd {n : Nat} (hn : n ≤ 3) {xss : List (List Int)} (h : Sq (n + 1) xss) {j : Nat} (hj : j < n + 1) : -60000000000000000 ≤ dtT n xss j ∧ dtT n xss j ≤ 60000000000000000 := by
  have h1 := abs_mul (A := 10000) (sx_bd (j := j) ((h.2 0 (by omega)).2 j hj)) (detF_bd n _ (minr_sq h hj))
  have h2 := dB3 hn
  unfold dtT
  omega
theorem dtS_small {n : Nat} (hn : n ≤ 3) {xss : List (List Int)} (h : Sq (n + 1) xss) {j : Nat} (hj : j ≤ n + 1) : -240000000000000000 ≤ dtS (dtT n xss) j ∧ dtS (dtT n xss) j ≤ 240000000000000000 := by
  have h1 := dtS_bd (f := dtT n xss) (B := 60000000000000000) j fun i hi => by
    have := dtT_bd hn h (j := i) (by omega)
    omega
  have h2 : j * 60000000000000000 ≤ 4 * 60000000000000000 := Nat.mul_le_mul_right _ (by omega)
  omega
/-- the rows of a Hankel determinant -/
def hkR (ms : List Int) (n i : Nat) : List (List Int) := (List.range i).map fun k => (ms.drop k).take n
theorem hkR_succ (ms : List Int) (n i : Nat) : hkR ms n (i + 1) = hkR ms n i ++ [(ms.drop i).take n] := by
  unfold hkR
  rw [List.range_succ, List.map_append]
  rfl
theorem hkR_length (ms : List Int) (n i : Nat) : (hkR ms n i).length = i := by simp [hkR]
theorem hkR_get (ms : List Int) (n i k : Nat) (h : k < i) : (hkR ms n i).getD k [] = (ms.drop k).take n := by
  unfold hkR
  rw [List.getD_eq_getElem?_getD, List.getElem?_map, List.getElem?_range h]
  rfl
theorem hkR_sq {ms : List Int} {n : Nat} (hl : 2 * n ≤ ms.length + 1) (hb : ∀ k, k < ms.length → -10000 ≤ ms.getD k 0 ∧ ms.getD k 0 ≤ 10000) : Sq n (hkR ms n n) := by
  refine ⟨hkR_length _ _ _, fun i hi => ?_⟩
  rw [hkR_get _ _ _ _ hi]
  refine ⟨by rw [List.length_take, List.length_drop]; omega, fun j hj => ?_⟩
  rw [List.getD_eq_getElem?_getD, List.getElem?_take, if_pos hj, List.getElem?_drop, ← List.getD_eq_getElem?_getD]
  exact hb (i + j) (by omega)
def hkD (ms : List Int) (n : Nat) : Int := detF n (hkR ms n n)
theorem hkD_bd {ms : List Int} {n : Nat} (hn : n ≤ 4) (hl : 2 * n ≤ ms.length + 1) (hb : ∀ k, k < ms.length → -10000 ≤ ms.getD k 0 ∧ ms.getD k 0 ≤ 10000) : -240000000000000000 ≤ hkD ms n ∧ hkD ms n ≤ 240000000000000000 := by
  have h1 := detF_bd n _ (hkR_sq hl hb)
  have h2 := dB_small hn
  unfold hkD
  omega
def hkOk (ms : List Int) (n : Int) : Bool := ((momB ms && allB ms (-10000) 10000) && inBd 0 4 n) && !decide (((ms.length : Nat) : Int) < 2 * n - 1)
def hkV (ms : List Int) (n : Int) : Int := if hkOk ms n = true then hkD ms n.toNat else 0
/-- the quotients of the determinants -/
def dq (ms : List Int) : Nat → Int
  | 0 => 1
  | n + 1 => (hkD ms (n + 1)).tdiv (hkD ms n)
/-- what is asked of the quotient behind n -/
def dc (ms : List Int) (n : Nat) : Bool := (((hkD ms (n + 1)).tmod (hkD ms n) == 0) && decide (1 ≤ dq ms (n + 1))) && ((!(n == 0) || hkD ms 1 == 1) && ((dq ms (n + 1)).tmod (dq ms n) == 0))
def dcA (ms : List Int) (n : Nat) : Bool := (List.range n).all (dc ms)
def dwL (ms : List Int) : Nat → List Int
  | 0 => []
  | n + 1 => if 1 ≤ n then dwL ms n ++ [(dq ms (n + 1)).tdiv (dq ms n)] else dwL ms n
theorem dwL_length (ms : List Int) : ∀ n, (dwL ms n).length ≤ n
  | 0 => Nat.le_refl _
  | n + 1 => by
    have := dwL_length ms n
    show (if 1 ≤ n then dwL ms n ++ [(dq ms (n + 1)).tdiv (dq ms n)] else dwL ms n).length ≤ n + 1
    split
    · rw [List.length_append]; simp; exact this
    · omega
theorem dcA_succ (ms : List Int) (n : Nat) : dcA ms (n + 1) = (dcA ms n && dc ms n) := by
  unfold dcA
  rw [List.range_succ, List.all_append]
  simp
theorem dcA_no {ms : List Int} {n m : Nat} (h : dc ms n = false) (hm : n < m) : dcA ms m = false := by
  unfold dcA
  rw [List.all_eq_false]
  exact ⟨n, List.mem_range.2 hm, by rw [h]; simp⟩
theorem dc_pos {ms : List Int} : ∀ n, dcA ms n = true → 1 ≤ hkD ms n ∧ 1 ≤ dq ms n
  | 0, _ => by
    have : hkD ms 0 = 1 := rfl
    rw [this]
    exact ⟨Int.le_refl _, Int.le_refl _⟩
  | n + 1, h => by
    rw [dcA_succ, Bool.and_eq_true] at h
    have h1 := (dc_pos n h.1).1
    have h2 := h.2
    unfold dc at h2
    simp only [Bool.and_eq_true, decide_eq_true_eq] at h2
    have h3 := h2.1.2
    refine ⟨?_, h3⟩
    have h4 : (hkD ms (n + 1)).tdiv (hkD ms n) = dq ms (n + 1) := rfl
    rw [← h4] at h3
    refine Classical.byContradiction fun hn => ?_
    have h5 : (hkD ms (n + 1)).tdiv (hkD ms n) ≤ 0 := by
      rw [show hkD ms (n + 1) = -(-hkD ms (n + 1)) by omega, Int.neg_tdiv, Int.tdiv_eq_ediv_of_nonneg (by omega)]
      have := Int.ediv_nonneg (show 0 ≤ -hkD ms (n + 1) by omega) (show 0 ≤ hkD ms n by omega)
      omega
    omega
def dwN (ms : List Int) : Nat := (ms.length + 1) / 2
def dwOk (ms : List Int) : Bool := ((momB ms && allB ms (-10000) 10000) && !(ms.length % 2 == 0)) && dcA ms (dwN ms)
def dwV (ms : List Int) : List Int := if dwOk ms = true then dwL ms (dwN ms) else []
end Go.Proofs.YtmfcknlpbliehaaDoor
