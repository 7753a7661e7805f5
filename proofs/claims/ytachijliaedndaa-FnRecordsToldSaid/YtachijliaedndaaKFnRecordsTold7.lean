/- Pack 7 of what FnRecordsTold needs: DegMath, RuMath. -/
import Derived.Test.YtachijliaedndaaKFnRecordsTold6
/- Degrees, their excess, forests, rotations: plain lists. -/
namespace Go.Proofs.Ytachijliaedndaa
open Go.RowKit
def inBd (lo hi x : Int) : Bool := decide (lo ≤ x) && decide (x ≤ hi)
def allB (xs : List Int) (lo hi : Int) : Bool := xs.all (inBd lo hi)
def degB (xs : List Int) : Bool := inBd 1 16 (xs.length : Nat) && allB xs 0 16
theorem allB_take {xs : List Int} {lo hi : Int} {k : Nat} (h : allB (xs.take k) lo hi = true) (hk : k < xs.length) : allB (xs.take (k + 1)) lo hi = inBd lo hi (xs.getD k 0) := by
  unfold allB at *
  rw [List.take_succ_eq_append_getElem hk, List.all_append, h, Bool.true_and, List.getD_eq_getElem?_getD, List.getElem?_eq_getElem hk]
  simp
theorem allB_no {xs : List Int} {lo hi : Int} {k : Nat} (hk : k < xs.length) (h : inBd lo hi (xs.getD k 0) = false) : allB xs lo hi = false := by
  rw [Bool.eq_false_iff]
  intro e
  unfold allB at e
  rw [List.all_eq_true] at e
  have := e (xs.getD k 0) (by rw [List.getD_eq_getElem?_getD, List.getElem?_eq_getElem hk]; exact List.getElem_mem hk)
  rw [this] at h
  cases h
theorem degB_of {xs : List Int} (h : degB xs = true) : (1 ≤ xs.length ∧ xs.length ≤ 16) ∧ ∀ k, k < xs.length → 0 ≤ xs.getD k 0 ∧ xs.getD k 0 ≤ 16 := by
  unfold degB allB inBd at h
  rw [Bool.and_eq_true, List.all_eq_true] at h
  obtain ⟨h1, h2⟩ := h
  simp at h1
  refine ⟨by omega, fun k hk => ?_⟩
  have := h2 (xs.getD k 0) (by rw [List.getD_eq_getElem?_getD, List.getElem?_eq_getElem hk]; exact List.getElem_mem hk)
  simpa using this
theorem take_sum (xs : List Int) (k : Nat) (h : k < xs.length) : (xs.take (k + 1)).sum = (xs.take k).sum + xs.getD k 0 := by
  rw [List.take_succ_eq_append_getElem h, List.sum_append, List.getD_eq_getElem?_getD, List.getElem?_eq_getElem h]
  simp
/-- the sum of the first k degrees -/
def sumT (xs : List Int) (k : Nat) : Int := (xs.take k).sum
theorem sumT_0 (xs : List Int) : sumT xs 0 = 0 := by simp [sumT]
theorem sumT_succ (xs : List Int) (k : Nat) (h : k < xs.length) : sumT xs (k + 1) = sumT xs k + xs.getD k 0 := take_sum xs k h
theorem sumT_bd {xs : List Int} (h : degB xs = true) : ∀ k, k ≤ xs.length → 0 ≤ sumT xs k ∧ sumT xs k ≤ 16 * k
  | 0, _ => by rw [sumT_0]; omega
  | k + 1, hk => by
    have h1 := sumT_bd h k (by omega)
    have h2 := (degB_of h).2 k (by omega)
    rw [sumT_succ xs k (by omega)]
    omega
def exc (xs : List Int) : Int := (xs.length : Int) - sumT xs xs.length
/-- no beginning of less than k falls too low -/
def upB (xs : List Int) (r : Int) : Nat → Bool
  | 0 => true
  | k + 1 => upB xs r k && !(decide (sumT xs (k + 1) - ((k + 1 : Nat) : Int) ≤ -r) && decide (k + 1 < xs.length))
def forB (xs : List Int) : Bool := decide (1 ≤ exc xs) && upB xs (exc xs) xs.length
theorem upB_no {xs : List Int} {r : Int} {k : Nat} (h : sumT xs (k + 1) - ((k + 1 : Nat) : Int) ≤ -r) (hk : k + 1 < xs.length) : ∀ m, upB xs r (k + 1 + m) = false
  | 0 => by rw [Nat.add_zero, upB, decide_eq_true h, decide_eq_true hk]; simp
  | m + 1 => by rw [← Nat.add_assoc, upB, upB_no h hk m]; simp
theorem upB_step {xs : List Int} {r : Int} {k : Nat} (h : upB xs r k = true) (hn : ¬ (sumT xs (k + 1) - ((k + 1 : Nat) : Int) ≤ -r ∧ k + 1 < xs.length)) : upB xs r (k + 1) = true := by
  rw [upB, h, Bool.true_and, Bool.not_eq_true', Bool.and_eq_false_iff, decide_eq_false_iff_not, decide_eq_false_iff_not]
  omega
theorem forB_low {xs : List Int} (h : exc xs < 1) : forB xs = false := by unfold forB; rw [decide_eq_false (by omega)]; rfl
theorem forB_no {xs : List Int} {k : Nat} (h : sumT xs (k + 1) - ((k + 1 : Nat) : Int) ≤ -exc xs) (hk : k + 1 < xs.length) : forB xs = false := by
  have := upB_no h hk (xs.length - (k + 1))
  rw [show k + 1 + (xs.length - (k + 1)) = xs.length by omega] at this
  unfold forB
  rw [this, Bool.and_false]
theorem forB_yes {xs : List Int} (h1 : 1 ≤ exc xs) (h : upB xs (exc xs) xs.length = true) : forB xs = true := by
  unfold forB; rw [decide_eq_true h1, h]; rfl
def rot (xs : List Int) (k : Nat) : List Int := xs.drop k ++ xs.take k
theorem rot_length (xs : List Int) (k : Nat) (h : k ≤ xs.length) : (rot xs k).length = xs.length := by
  unfold rot; rw [List.length_append, List.length_drop, List.length_take]; omega
end Go.Proofs.Ytachijliaedndaa

/- Chances of gamblers: fractions in lowest terms, powers, the chance to win. -/
namespace Go.Proofs.Ytachijliaedndaa
open Go.RowKit
set_option linter.unusedVariables false
/-- a fraction in lowest terms: its numerator and its denominator -/
def numZ (n d : Int) : Int := n.tdiv (Nat.gcd n.natAbs d.natAbs : Nat)
def denZ (n d : Int) : Int := d.tdiv (Nat.gcd n.natAbs d.natAbs : Nat)
theorem gcd_bd {n d : Int} (hd : 0 < d) : 0 < ((Nat.gcd n.natAbs d.natAbs : Nat) : Int) := by
  have := Nat.gcd_pos_of_pos_right n.natAbs (show 0 < d.natAbs by omega)
  omega
theorem tdiv_part {d g : Int} (hg : 0 < g) (hd : 0 < d) (h2 : g ∣ d) : 0 < d.tdiv g ∧ d.tdiv g ≤ d := by
  obtain ⟨k, hk⟩ := h2
  rw [hk, Int.mul_tdiv_cancel_left _ (by omega)]
  have hk0 : 0 < k := by
    rcases Int.lt_or_le 0 k with h | h
    · exact h
    · exfalso
      have := Int.mul_nonpos_of_nonneg_of_nonpos (show 0 ≤ g by omega) h
      omega
  refine ⟨hk0, ?_⟩
  have := Int.mul_le_mul_of_nonneg_right (show 1 ≤ g by omega) (show 0 ≤ k by omega)
  omega
theorem denZ_bd {n d : Int} (hd : 0 < d) : 0 < denZ n d ∧ denZ n d ≤ d := by
  refine tdiv_part (gcd_bd hd) hd ?_
  have := Int.natCast_dvd_natCast.2 (Nat.gcd_dvd_right n.natAbs d.natAbs)
  rwa [show ((d.natAbs : Nat) : Int) = d by omega] at this
theorem numZ_pos {n d : Int} (hn : 0 < n) (hd : 0 < d) : 0 < numZ n d ∧ numZ n d ≤ n := by
  refine tdiv_part (gcd_bd hd) hn ?_
  have := Int.natCast_dvd_natCast.2 (Nat.gcd_dvd_left n.natAbs d.natAbs)
  rwa [show ((n.natAbs : Nat) : Int) = n by omega] at this
theorem numZ_zero (d : Int) : numZ 0 d = 0 := by unfold numZ; simp
theorem numZ_bd {n d : Int} {B : Nat} (hn : -(B : Int) ≤ n ∧ n ≤ B) : -(B : Int) ≤ numZ n d ∧ numZ n d ≤ B := by
  unfold numZ
  have := Int.natAbs_tdiv_le_natAbs n (Nat.gcd n.natAbs d.natAbs : Nat)
  omega
/-- a chance of n in d -/
def ruB (n d : Int) : Bool := (inBd 2 6 d && inBd 1 (d - 1) n) && (numZ n d == n && denZ n d == d)
theorem ruB_of {n d : Int} (h : ruB n d = true) : 2 ≤ d ∧ d ≤ 6 ∧ 1 ≤ n ∧ n ≤ d - 1 := by
  unfold ruB inBd at h
  simp only [Bool.and_eq_true, decide_eq_true_eq] at h
  omega
def askB (i g n d : Int) : Bool := (inBd 1 12 g && inBd 0 g i) && ruB n d
theorem askB_of {i g n d : Int} (h : askB i g n d = true) : (1 ≤ g ∧ g ≤ 12) ∧ (0 ≤ i ∧ i ≤ g) ∧ (2 ≤ d ∧ d ≤ 6) ∧ (1 ≤ n ∧ n ≤ d - 1) := by
  unfold askB inBd at h
  simp only [Bool.and_eq_true, decide_eq_true_eq] at h
  have := ruB_of h.2
  omega
/-- numerator and denominator of the chance to win, ahead of lowest terms -/
def wnN (i g n d : Int) : Int :=
  if n = d - n then i else
  if n ^ g.toNat - (d - n) ^ g.toNat < 0 then -(n ^ (g - i).toNat * (n ^ i.toNat - (d - n) ^ i.toNat)) else n ^ (g - i).toNat * (n ^ i.toNat - (d - n) ^ i.toNat)
def wnD (i g n d : Int) : Int :=
  if n = d - n then g else
  if n ^ g.toNat - (d - n) ^ g.toNat < 0 then -(n ^ g.toNat - (d - n) ^ g.toNat) else n ^ g.toNat - (d - n) ^ g.toNat
theorem pow_ne {a b : Nat} (h : a ≠ b) {k : Nat} (hk : 0 < k) : a ^ k ≠ b ^ k := by
  rcases Nat.lt_or_gt_of_ne h with h | h
  · exact Nat.ne_of_lt (Nat.pow_lt_pow_left h (by omega))
  · exact (Nat.ne_of_lt (Nat.pow_lt_pow_left h (by omega))).symm
theorem pow_cast (a k : Nat) : ((a ^ k : Nat) : Int) = (a : Int) ^ k := Int.natCast_pow a k
theorem pow5 {x : Int} (hx : 0 ≤ x ∧ x ≤ 5) {k : Nat} (hk : k ≤ 12) : 0 ≤ x ^ k ∧ x ^ k ≤ 244140625 := by
  obtain ⟨a, rfl⟩ := Int.eq_ofNat_of_zero_le hx.1
  rw [← pow_cast]
  have h1 : a ^ k ≤ 5 ^ k := Nat.pow_le_pow_left (by omega) k
  have h2 : (5 : Nat) ^ k ≤ 5 ^ 12 := Nat.pow_le_pow_right (by omega) hk
  have h3 : (5 : Nat) ^ 12 = 244140625 := by decide
  omega
theorem pow_ne_int {x y : Int} (hx : 0 ≤ x) (hy : 0 ≤ y) (h : x ≠ y) {k : Nat} (hk : 0 < k) : x ^ k ≠ y ^ k := by
  obtain ⟨a, rfl⟩ := Int.eq_ofNat_of_zero_le hx
  obtain ⟨b, rfl⟩ := Int.eq_ofNat_of_zero_le hy
  rw [← pow_cast, ← pow_cast]
  have := pow_ne (a := a) (b := b) (by omega) hk
  omega
theorem pow_mono {x y : Int} (hx : 0 ≤ x) (h : x ≤ y) (k : Nat) : x ^ k ≤ y ^ k := by
  obtain ⟨a, rfl⟩ := Int.eq_ofNat_of_zero_le hx
  obtain ⟨b, rfl⟩ := Int.eq_ofNat_of_zero_le (show 0 ≤ y by omega)
  rw [← pow_cast, ← pow_cast]
  have := Nat.pow_le_pow_left (show a ≤ b by omega) k
  omega
theorem pow_pos1 {x : Int} (hx : 1 ≤ x) (k : Nat) : 1 ≤ x ^ k := by
  have := pow_mono (x := 1) (by omega) hx k
  rwa [Int.one_pow] at this
theorem wn_bd {i g n d : Int} (h : askB i g n d = true) : (0 ≤ wnN i g n d ∧ wnN i g n d ≤ wnD i g n d) ∧ (0 < wnD i g n d ∧ wnD i g n d ≤ 244140625) ∧ (1 ≤ i → 0 < wnN i g n d) := by
  obtain ⟨h1, h2, h3, h4⟩ := askB_of h
  unfold wnN wnD
  by_cases c : n = d - n
  · rw [if_pos c, if_pos c]
    omega
  · rw [if_neg c, if_neg c]
    have p1 := pow5 (x := n) (by omega) (k := g.toNat) (by omega)
    have p2 := pow5 (x := d - n) (by omega) (k := g.toNat) (by omega)
    have p6 := pow_ne_int (x := n) (y := d - n) (by omega) (by omega) c (k := g.toNat) (by omega)
    have hg : g.toNat = (g - i).toNat + i.toNat := by omega
    have e1 : n ^ g.toNat = n ^ (g - i).toNat * n ^ i.toNat := by rw [hg, Int.pow_add]
    have e2 : (d - n) ^ g.toNat = (d - n) ^ (g - i).toNat * (d - n) ^ i.toNat := by rw [hg, Int.pow_add]
    have hP := pow_pos1 (x := n) (by omega) (g - i).toNat
    have hR := pow_pos1 (x := d - n) (by omega) (g - i).toNat
    have hQ := pow_pos1 (x := n) (by omega) i.toNat
    have hT := pow_pos1 (x := d - n) (by omega) i.toNat
    have hs : 1 ≤ i → n ^ i.toNat ≠ (d - n) ^ i.toNat := fun hi => pow_ne_int (by omega) (by omega) c (by omega)
    rw [e1] at p1 p6 ⊢
    rw [e2] at p2 p6 ⊢
    rcases Int.lt_or_gt_of_ne c with hlt | hgt
    · have m1 := pow_mono (x := n) (by omega) (show n ≤ d - n by omega) (g - i).toNat
      have m2 := pow_mono (x := n) (by omega) (show n ≤ d - n by omega) i.toNat
      generalize n ^ (g - i).toNat = P at *
      generalize (d - n) ^ (g - i).toNat = R at *
      generalize n ^ i.toNat = Q at *
      generalize (d - n) ^ i.toNat = T at *
      have q1 : P * Q ≤ R * T := Int.mul_le_mul m1 m2 (by omega) (by omega)
      have q2 : 0 ≤ (R - P) * T := Int.mul_nonneg (by omega) (by omega)
      have q3 : 0 ≤ P * (T - Q) := Int.mul_nonneg (by omega) (by omega)
      have q4 : 1 ≤ i → 0 < P * (T - Q) := fun hi => Int.mul_pos (by omega) (by have := hs hi; omega)
      rw [if_pos (by omega), if_pos (by omega)]
      rw [Int.sub_mul] at q2
      rw [Int.mul_sub] at q3 q4
      rw [Int.mul_sub]
      refine ⟨by omega, by omega, fun hi => ?_⟩
      have := q4 hi
      omega
    · have m1 := pow_mono (x := d - n) (by omega) (show d - n ≤ n by omega) (g - i).toNat
      have m2 := pow_mono (x := d - n) (by omega) (show d - n ≤ n by omega) i.toNat
      generalize n ^ (g - i).toNat = P at *
      generalize (d - n) ^ (g - i).toNat = R at *
      generalize n ^ i.toNat = Q at *
      generalize (d - n) ^ i.toNat = T at *
      have q1 : R * T ≤ P * Q := Int.mul_le_mul m1 m2 (by omega) (by omega)
      have q2 : 0 ≤ (P - R) * T := Int.mul_nonneg (by omega) (by omega)
      have q3 : 0 ≤ P * (Q - T) := Int.mul_nonneg (by omega) (by omega)
      have q4 : 1 ≤ i → 0 < P * (Q - T) := fun hi => Int.mul_pos (by omega) (by have := hs hi; omega)
      rw [if_neg (by omega), if_neg (by omega)]
      rw [Int.sub_mul] at q2
      rw [Int.mul_sub] at q3 q4
      rw [Int.mul_sub]
      refine ⟨by omega, by omega, fun hi => ?_⟩
      have := q4 hi
      omega
def winP (i g n d : Int) : Int := numZ (wnN i g n d) (wnD i g n d)
def winQ (i g n d : Int) : Int := denZ (wnN i g n d) (wnD i g n d)
theorem win_bd {i g n d : Int} (h : askB i g n d = true) : (0 ≤ winP i g n d ∧ winP i g n d ≤ 244140625) ∧ (0 < winQ i g n d ∧ winQ i g n d ≤ 244140625) ∧ (1 ≤ i → 0 < winP i g n d) := by
  obtain ⟨h1, h2, h3⟩ := wn_bd h
  have h4 := denZ_bd (n := wnN i g n d) h2.1
  unfold winP winQ
  rcases Int.lt_or_eq_of_le h1.1 with h5 | h5
  · have h6 := numZ_pos h5 h2.1
    exact ⟨by omega, by omega, fun _ => h6.1⟩
  · rw [← h5, numZ_zero]
    refine ⟨by omega, by rw [← h5] at h4; omega, fun hi => ?_⟩
    have := h3 hi
    omega
theorem mul_le_of' {x y A B : Int} (hx : 0 ≤ x ∧ x ≤ A) (hy : 0 ≤ y ∧ y ≤ B) : 0 ≤ x * y ∧ x * y ≤ A * B :=
  ⟨Int.mul_nonneg hx.1 hy.1, Int.le_trans (Int.mul_le_mul_of_nonneg_left hy.2 hx.1) (Int.mul_le_mul_of_nonneg_right hx.2 (by omega))⟩
theorem tdiv_mono {g a b : Int} (hg : 0 < g) (ha : 0 ≤ a) (h : a ≤ b) : a.tdiv g ≤ b.tdiv g := by
  rw [Int.tdiv_eq_ediv_of_nonneg ha, Int.tdiv_eq_ediv_of_nonneg (by omega)]
  exact Int.ediv_le_ediv hg h
theorem win_le {i g n d : Int} (h : askB i g n d = true) : winP i g n d ≤ winQ i g n d := by
  obtain ⟨h1, h2, h3⟩ := wn_bd h
  unfold winP winQ numZ denZ
  exact tdiv_mono (gcd_bd h2.1) h1.1 h1.2
end Go.Proofs.Ytachijliaedndaa
