/- Pack 14 of what FnRecordsTold needs: KcMath, HwMath. -/
import Derived.Test.YtachijliaedndaaKFnRecordsTold13
/- Numbers of mixed paths with colours, by last steps. -/
namespace Go.Proofs.Ytachijliaedndaa
open Go.RowKit
set_option linter.unusedVariables false
/-- ways of k steps to the height h -/
def kc (u f d : Nat) (fl : Bool) : Nat → Nat → Nat
  | 0, h => if h = 0 then 1 else 0
  | k + 1, 0 => d * kc u f d fl k 1 + (if fl = true then f * kc u f d fl k 0 else 0)
  | k + 1, h + 1 => u * kc u f d fl k h + d * kc u f d fl k (h + 2) + f * kc u f d fl k (h + 1)
theorem kc_high (u f d : Nat) (fl : Bool) : ∀ k h, k < h → kc u f d fl k h = 0
  | 0, h, hh => by unfold kc; rw [if_neg (by omega)]
  | k + 1, 0, hh => by omega
  | k + 1, h + 1, hh => by rw [kc, kc_high u f d fl k h (by omega), kc_high u f d fl k (h + 2) (by omega), kc_high u f d fl k (h + 1) (by omega)]; simp
theorem kc_le {u f d : Nat} {fl : Bool} (hu : u ≤ 9) (hf : f ≤ 9) (hd : d ≤ 9) : ∀ k h, kc u f d fl k h ≤ 27 ^ k
  | 0, h => by unfold kc; split <;> simp
  | k + 1, 0 => by
    have h1 := Nat.mul_le_mul hd (kc_le (fl := fl) hu hf hd k 1)
    have h2 := Nat.mul_le_mul hf (kc_le (fl := fl) hu hf hd k 0)
    rw [kc, Nat.pow_succ]
    split <;> omega
  | k + 1, h + 1 => by
    have h1 := Nat.mul_le_mul hu (kc_le (fl := fl) hu hf hd k h)
    have h2 := Nat.mul_le_mul hd (kc_le (fl := fl) hu hf hd k (h + 2))
    have h3 := Nat.mul_le_mul hf (kc_le (fl := fl) hu hf hd k (h + 1))
    rw [kc, Nat.pow_succ]
    omega
theorem kc_small {u f d : Nat} {fl : Bool} (hu : u ≤ 9) (hf : f ≤ 9) (hd : d ≤ 9) {k : Nat} (hk : k ≤ 12) (h : Nat) : kc u f d fl k h ≤ 150094635296999121 := by
  have h1 := kc_le (fl := fl) hu hf hd k h
  have h2 : 27 ^ k ≤ 27 ^ 12 := Nat.pow_le_pow_right (by omega) hk
  have h3 : (27 : Nat) ^ 12 = 150094635296999121 := by decide
  omega
/-- the row of k + 1 when the heights below j of the row of k have been looked at -/
def kcP (u f d : Nat) (fl : Bool) (k j i : Nat) : Int :=
  (((if 1 ≤ i ∧ i ≤ j then u * kc u f d fl k (i - 1) else 0) + (if i + 1 < j then d * kc u f d fl k (i + 1) else 0) + (if i < j ∧ (0 < i ∨ fl = true) then f * kc u f d fl k i else 0) : Nat) : Int)
theorem kcP_zero (u f d : Nat) (fl : Bool) (k n : Nat) : List.replicate n (0 : Int) = fr (kcP u f d fl k 0) n := by
  apply List.ext_getElem
  · simp [fr]
  · intro i h1 h2
    simp only [fr, List.getElem_replicate, List.getElem_map, List.getElem_range, kcP]
    rw [if_neg (by omega), if_neg (by omega), if_neg (by omega)]
    rfl
theorem kcP_all (u f d : Nat) (fl : Bool) (k i : Nat) : kcP u f d fl k (k + 1) i = ((kc u f d fl (k + 1) i : Nat) : Int) := by
  unfold kcP
  congr 1
  cases i with
  | zero =>
    rw [kc, if_neg (by omega), Nat.zero_add]
    congr 1
    · by_cases h : 0 + 1 < k + 1
      · rw [if_pos h]
      · rw [if_neg h, kc_high _ _ _ _ _ _ (by omega), Nat.mul_zero]
    · cases fl
      · rw [if_neg (by simp), if_neg (by simp)]
      · rw [if_pos (by simp), if_pos rfl]
  | succ i =>
    rw [kc]
    congr 1
    · congr 1
      · by_cases h : i + 1 ≤ k + 1
        · rw [if_pos (by omega)]; rfl
        · rw [if_neg (by omega), kc_high _ _ _ _ _ _ (by omega), Nat.mul_zero]
      · by_cases h : i + 1 + 1 < k + 1
        · rw [if_pos h]
        · rw [if_neg h, kc_high _ _ _ _ _ _ (by omega), Nat.mul_zero]
    · by_cases h : i + 1 < k + 1
      · rw [if_pos ⟨h, .inl (by omega)⟩]
      · rw [if_neg (by omega), kc_high _ _ _ _ _ _ (by omega), Nat.mul_zero]
theorem kcP_bd {u f d : Nat} {fl : Bool} (hu : u ≤ 9) (hf : f ≤ 9) (hd : d ≤ 9) {k : Nat} (hk : k ≤ 11) (j i : Nat) : 0 ≤ kcP u f d fl k j i ∧ kcP u f d fl k j i ≤ 150094635296999121 := by
  have e : ∀ h, kc u f d fl k h ≤ 5559060566555523 := fun h => by
    have h1 := kc_le (fl := fl) hu hf hd k h
    have h2 : 27 ^ k ≤ 27 ^ 11 := Nat.pow_le_pow_right (by omega) hk
    have h3 : (27 : Nat) ^ 11 = 5559060566555523 := by decide
    omega
  have h1 := Nat.mul_le_mul hu (e (i - 1))
  have h2 := Nat.mul_le_mul hd (e (i + 1))
  have h3 := Nat.mul_le_mul hf (e i)
  unfold kcP
  split <;> split <;> split <;> omega
/-- one more height j: three places turn -/
theorem kcP_step (u f d : Nat) (fl : Bool) (k j i : Nat) : kcP u f d fl k (j + 1) i =
    kcP u f d fl k j i + (if i = j + 1 then ((u * kc u f d fl k j : Nat) : Int) else 0) + (if i + 1 = j then ((d * kc u f d fl k j : Nat) : Int) else 0) + (if i = j ∧ (0 < j ∨ fl = true) then ((f * kc u f d fl k j : Nat) : Int) else 0) := by
  unfold kcP
  by_cases e1 : i = j + 1
  · subst e1
    rw [if_pos (show 1 ≤ j + 1 ∧ j + 1 ≤ j + 1 by omega), if_neg (show ¬ (j + 1 + 1 < j + 1) by omega), if_neg (show ¬ (j + 1 < j + 1 ∧ (0 < j + 1 ∨ fl = true)) by omega), if_neg (show ¬ (1 ≤ j + 1 ∧ j + 1 ≤ j) by omega), if_neg (show ¬ (j + 1 + 1 < j) by omega), if_neg (show ¬ (j + 1 < j ∧ (0 < j + 1 ∨ fl = true)) by omega), if_pos rfl, if_neg (show ¬ j + 1 + 1 = j by omega), if_neg (show ¬ (j + 1 = j ∧ (0 < j ∨ fl = true)) by omega), Nat.add_sub_cancel]
    omega
  · rw [if_neg e1]
    have a1 : (1 ≤ i ∧ i ≤ j + 1) ↔ (1 ≤ i ∧ i ≤ j) := by omega
    by_cases e2 : i + 1 = j
    · subst e2
      rw [if_pos rfl, if_neg (show ¬ (i = i + 1 ∧ (0 < i + 1 ∨ fl = true)) by omega), if_pos (show i + 1 < i + 1 + 1 by omega), if_neg (show ¬ i + 1 < i + 1 by omega)]
      have a3 : (i < i + 1 + 1 ∧ (0 < i ∨ fl = true)) ↔ (i < i + 1 ∧ (0 < i ∨ fl = true)) := by
        constructor <;> intro h <;> exact ⟨by omega, h.2⟩
      simp only [a1, a3]
      omega
    · rw [if_neg e2]
      have a2 : (i + 1 < j + 1) ↔ (i + 1 < j ∨ i = j ∧ False) := by
        constructor
        · intro h; left; omega
        · rintro (h | ⟨_, h⟩)
          · omega
          · exact h.elim
      by_cases e3 : i = j
      · subst e3
        rw [if_neg (show ¬ i + 1 < i + 1 by omega), if_neg (show ¬ i + 1 < i by omega), if_neg (show ¬ (i < i ∧ (0 < i ∨ fl = true)) by omega)]
        simp only [a1]
        by_cases h : 0 < i ∨ fl = true
        · rw [if_pos (show i < i + 1 ∧ (0 < i ∨ fl = true) from ⟨by omega, h⟩), if_pos (show True ∧ (0 < i ∨ fl = true) from ⟨trivial, h⟩)]; omega
        · rw [if_neg (show ¬ (i < i + 1 ∧ (0 < i ∨ fl = true)) from fun x => h x.2), if_neg (show ¬ (True ∧ (0 < i ∨ fl = true)) from fun x => h x.2)]; omega
      · rw [if_neg (show ¬ (i = j ∧ (0 < j ∨ fl = true)) from fun x => e3 x.1)]
        have a3 : (i < j + 1 ∧ (0 < i ∨ fl = true)) ↔ (i < j ∧ (0 < i ∨ fl = true)) := by
          constructor <;> intro h <;> exact ⟨by omega, h.2⟩
        have a4 : (i + 1 < j + 1) ↔ (i + 1 < j) := by omega
        simp only [a1, a3, a4]
        omega
theorem fr_set3 (f g : Nat → Int) (n a b c : Nat) (h : ∀ j, j < n → j ≠ a → j ≠ b → j ≠ c → f j = g j) : (((fr f n).set a (g a)).set b (g b)).set c (g c) = fr g n := by
  apply List.ext_getElem
  · simp [fr]
  · intro i h1 h2
    have hi : i < n := by simpa [fr] using h2
    rw [List.getElem_set, List.getElem_set, List.getElem_set]
    by_cases e1 : c = i
    · subst e1; simp [fr]
    · rw [if_neg e1]
      by_cases e2 : b = i
      · subst e2; simp [fr]
      · rw [if_neg e2]
        by_cases e3 : a = i
        · subst e3; simp [fr]
        · rw [if_neg e3]
          simpa [fr] using h i hi (fun x => e3 x.symm) (fun x => e2 x.symm) (fun x => e1 x.symm)
theorem kcP_up (u f d : Nat) (fl : Bool) (k j : Nat) : kcP u f d fl k (j + 1) (j + 1) = kcP u f d fl k j (j + 1) + (u : Int) * (kc u f d fl k j : Nat) := by
  rw [kcP_step, if_pos rfl, if_neg (by omega), if_neg (by omega), Int.natCast_mul]
  omega
theorem kcP_down (u f d : Nat) (fl : Bool) (k p : Nat) : kcP u f d fl k (p + 1 + 1) p = kcP u f d fl k (p + 1) p + (d : Int) * (kc u f d fl k (p + 1) : Nat) := by
  rw [kcP_step, if_neg (by omega), if_pos rfl, if_neg (by omega), Int.natCast_mul]
  omega
theorem kcP_flat (u f d : Nat) (fl : Bool) (k j : Nat) (h : 0 < j ∨ fl = true) : kcP u f d fl k (j + 1) j = kcP u f d fl k j j + (f : Int) * (kc u f d fl k j : Nat) := by
  rw [kcP_step, if_neg (by omega), if_neg (by omega), if_pos ⟨rfl, h⟩, Int.natCast_mul]
  omega
theorem kcP_same (u f d : Nat) (fl : Bool) (k j i : Nat) (h1 : i ≠ j + 1) (h2 : i + 1 ≠ j) (h3 : ¬ (i = j ∧ (0 < j ∨ fl = true))) : kcP u f d fl k j i = kcP u f d fl k (j + 1) i := by
  rw [kcP_step, if_neg h1, if_neg h2, if_neg h3]
  omega
theorem kcP_set (u f d : Nat) (fl : Bool) (k p n : Nat) : (((fr (kcP u f d fl k (p + 1)) n).set (p + 1 + 1) (kcP u f d fl k (p + 1 + 1) (p + 1 + 1))).set p (kcP u f d fl k (p + 1 + 1) p)).set (p + 1) (kcP u f d fl k (p + 1 + 1) (p + 1)) = fr (kcP u f d fl k (p + 1 + 1)) n :=
  fr_set3 _ _ _ _ _ _ fun j _ h1 h2 h3 => kcP_same u f d fl k (p + 1) j h1 (by omega) (fun x => h3 x.1)
theorem kcP_set0 (u f d : Nat) (k n : Nat) : ((fr (kcP u f d true k 0) n).set 1 (kcP u f d true k 1 1)).set 0 (kcP u f d true k 1 0) = fr (kcP u f d true k 1) n := by
  have := fr_set3 (kcP u f d true k 0) (kcP u f d true k 1) n 1 1 0 fun j _ h1 h2 h3 => kcP_same u f d true k 0 j h1 (by omega) (fun x => h3 x.1)
  rwa [List.set_set] at this
theorem kcP_set1 (u f d : Nat) (k n : Nat) : (fr (kcP u f d false k 0) n).set 1 (kcP u f d false k 1 1) = fr (kcP u f d false k 1) n :=
  fr_set _ _ _ _ fun j _ h1 => kcP_same u f d false k 0 j h1 (by omega) (by simp)
theorem kc_first (u f d : Nat) (fl : Bool) (n : Nat) : (List.replicate (n + 2) (0 : Int)).set 0 1 = fr (fun j => ((kc u f d fl 0 j : Nat) : Int)) (n + 2) := by
  apply List.ext_getElem
  · simp [fr]
  · intro i h1 h2
    simp only [fr, List.getElem_set, List.getElem_replicate, List.getElem_map, List.getElem_range, kc]
    by_cases e : i = 0
    · subst e; rfl
    · rw [if_neg (fun x => e x.symm), if_neg e]; rfl
def kcN (n : Nat) (u f d : Nat) (fl : Bool) : Int := ((kc u f d fl n 0 : Nat) : Int)
end Go.Proofs.Ytachijliaedndaa

/- What gamblers hold behind so many games: numbers of ways. -/
namespace Go.Proofs.Ytachijliaedndaa
open Go.RowKit
set_option linter.unusedVariables false
def ind (a : Nat) (x : Int) (j : Nat) : Int := if j = a then x else 0
def sumTo (F : Nat → Int) : Nat → Int
  | 0 => 0
  | m + 1 => sumTo F m + F m
theorem sumTo_add (F G : Nat → Int) : ∀ m, sumTo (fun j => F j + G j) m = sumTo F m + sumTo G m
  | 0 => rfl
  | m + 1 => by
    show sumTo _ m + (F m + G m) = (sumTo F m + F m) + (sumTo G m + G m)
    rw [sumTo_add F G m]
    omega
theorem sumTo_ind (a : Nat) (x : Int) : ∀ m, sumTo (ind a x) m = if a < m then x else 0
  | 0 => by simp [sumTo]
  | m + 1 => by
    show sumTo (ind a x) m + (if m = a then x else 0) = _
    rw [sumTo_ind a x m]
    by_cases h1 : a < m
    · rw [if_pos h1, if_neg (by omega), if_pos (by omega)]
      omega
    · rw [if_neg h1]
      by_cases h2 : m = a
      · rw [if_pos h2, if_pos (by omega)]
        omega
      · rw [if_neg h2, if_neg (by omega)]
        omega
theorem sumTo_nonneg {F : Nat → Int} {m : Nat} (h : ∀ j, j < m → 0 ≤ F j) : 0 ≤ sumTo F m := by
  induction m with
  | zero => exact Int.le_refl _
  | succ m ih =>
    have h1 := ih fun j hj => h j (by omega)
    have h2 := h m (by omega)
    show 0 ≤ sumTo F m + F m
    omega
theorem sumTo_le {F : Nat → Int} : ∀ {m : Nat}, (∀ j, j < m → 0 ≤ F j) → ∀ k, k ≤ m → sumTo F k ≤ sumTo F m
  | 0, _, k, hk => by rw [show k = 0 by omega]; exact Int.le_refl _
  | m + 1, h, k, hk => by
    by_cases e : k = m + 1
    · rw [e]; exact Int.le_refl _
    · have h1 := sumTo_le (m := m) (fun j hj => h j (by omega)) k (by omega)
      have h2 := h m (by omega)
      show _ ≤ sumTo F m + F m
      omega
theorem le_sumTo {F : Nat → Int} {m : Nat} (h : ∀ j, j < m → 0 ≤ F j) {k : Nat} (hk : k < m) : F k ≤ sumTo F m := by
  have h1 := sumTo_le h (k + 1) (by omega)
  have h2 : sumTo F (k + 1) = sumTo F k + F k := rfl
  have h3 := sumTo_nonneg (F := F) (m := k) fun j hj => h j (by omega)
  omega
/-- what the place s gives to the next row -/
def hwS (g : Nat) (n d : Int) (f : Nat → Int) (s j : Nat) : Int :=
  if s = 0 ∨ s = g then ind s (f s * d) j else ind (s + 1) (f s * n) j + ind (s - 1) (f s * (d - n)) j
/-- the next row while it is made: the places below m have given -/
def hwP (g : Nat) (n d : Int) (f : Nat → Int) : Nat → Nat → Int
  | 0, _ => 0
  | m + 1, j => hwP g n d f m j + hwS g n d f m j
/-- the ways to hold j behind so many games -/
def hw (i g : Nat) (n d : Int) : Nat → Nat → Int
  | 0 => ind i 1
  | k + 1 => hwP g n d (hw i g n d k) (g + 1)
theorem hwS_sum {g : Nat} {n d : Int} {f : Nat → Int} {s : Nat} (hs : s ≤ g) : sumTo (hwS g n d f s) (g + 1) = f s * d := by
  by_cases h : s = 0 ∨ s = g
  · have e : hwS g n d f s = ind s (f s * d) := by funext j; unfold hwS; rw [if_pos h]
    rw [e, sumTo_ind, if_pos (by omega)]
  · have e : hwS g n d f s = fun j => ind (s + 1) (f s * n) j + ind (s - 1) (f s * (d - n)) j := by funext j; unfold hwS; rw [if_neg h]
    rw [e, sumTo_add, sumTo_ind, sumTo_ind, if_pos (by omega), if_pos (by omega), ← Int.mul_add]
    congr 1
    omega
theorem hwP_sum {g : Nat} {n d : Int} {f : Nat → Int} : ∀ m, m ≤ g + 1 → sumTo (hwP g n d f m) (g + 1) = sumTo f m * d
  | 0, _ => by
    have e : hwP g n d f 0 = ind (g + 1) 0 := by funext j; unfold ind; split <;> rfl
    rw [e, sumTo_ind]
    simp [sumTo]
  | m + 1, h => by
    have e : hwP g n d f (m + 1) = fun j => hwP g n d f m j + hwS g n d f m j := rfl
    rw [e, sumTo_add, hwP_sum m (by omega), hwS_sum (by omega)]
    show _ = (sumTo f m + f m) * d
    rw [Int.add_mul]
theorem hw_sum {i g : Nat} (hi : i ≤ g) (n d : Int) : ∀ k, sumTo (hw i g n d k) (g + 1) = d ^ k
  | 0 => by
    show sumTo (ind i 1) (g + 1) = d ^ 0
    rw [sumTo_ind, if_pos (by omega), Int.pow_zero]
  | k + 1 => by
    show sumTo (hwP g n d (hw i g n d k) (g + 1)) (g + 1) = _
    rw [hwP_sum _ (Nat.le_refl _), hw_sum hi n d k, Int.pow_succ]
theorem hwS_nonneg {g : Nat} {n d : Int} {f : Nat → Int} {s j : Nat} (hf : 0 ≤ f s) (hn : 0 ≤ n) (hd : n ≤ d) : 0 ≤ hwS g n d f s j := by
  have a1 := Int.mul_nonneg hf (show 0 ≤ d by omega)
  have a2 := Int.mul_nonneg hf hn
  have a3 := Int.mul_nonneg hf (show 0 ≤ d - n by omega)
  unfold hwS ind
  generalize f s * d = x1 at *
  generalize f s * n = x2 at *
  generalize f s * (d - n) = x3 at *
  repeat' split
  all_goals omega
theorem hwP_nonneg {g : Nat} {n d : Int} {f : Nat → Int} (hf : ∀ s, 0 ≤ f s) (hn : 0 ≤ n) (hd : n ≤ d) : ∀ m j, 0 ≤ hwP g n d f m j
  | 0, _ => Int.le_refl _
  | m + 1, j => by
    have h1 := hwP_nonneg (g := g) hf hn hd m j
    have h2 := hwS_nonneg (g := g) (j := j) (hf m) hn hd
    show 0 ≤ hwP g n d f m j + hwS g n d f m j
    omega
theorem hw_nonneg (i g : Nat) {n d : Int} (hn : 0 ≤ n) (hd : n ≤ d) : ∀ k j, 0 ≤ hw i g n d k j
  | 0, j => by show 0 ≤ ind i 1 j; unfold ind; split <;> omega
  | k + 1, j => hwP_nonneg (fun s => hw_nonneg i g hn hd k s) hn hd _ j
theorem pow6' {x : Int} (hx : 0 ≤ x ∧ x ≤ 6) {k : Nat} (hk : k ≤ 18) : 0 ≤ x ^ k ∧ x ^ k ≤ 101559956668416 := by
  obtain ⟨a, rfl⟩ := Int.eq_ofNat_of_zero_le hx.1
  rw [← pow_cast]
  have h1 : a ^ k ≤ 6 ^ k := Nat.pow_le_pow_left (by omega) k
  have h2 : (6 : Nat) ^ k ≤ 6 ^ 18 := Nat.pow_le_pow_right (by omega) hk
  have h3 : (6 : Nat) ^ 18 = 101559956668416 := by decide
  omega
theorem hw_bd {i g : Nat} (hi : i ≤ g) {n d : Int} (hn : 0 ≤ n) (hd : n ≤ d) (hd6 : d ≤ 6) {k : Nat} (hk : k ≤ 18) {j : Nat} (hj : j ≤ g) : 0 ≤ hw i g n d k j ∧ hw i g n d k j ≤ 101559956668416 := by
  have h0 := hw_nonneg i g hn hd k
  have h1 := le_sumTo (F := hw i g n d k) (m := g + 1) (fun j _ => h0 j) (k := j) (by omega)
  rw [hw_sum hi] at h1
  have h2 := pow6' (x := d) (by omega) hk
  exact ⟨h0 j, by omega⟩
theorem hwP_bd {i g : Nat} (hi : i ≤ g) {n d : Int} (hn : 0 ≤ n) (hd : n ≤ d) (hd6 : d ≤ 6) {k : Nat} (hk : k ≤ 17) {m : Nat} (hm : m ≤ g + 1) {j : Nat} (hj : j ≤ g) : 0 ≤ hwP g n d (hw i g n d k) m j ∧ hwP g n d (hw i g n d k) m j ≤ 101559956668416 := by
  have hf := hw_nonneg i g hn hd k
  have h0 := hwP_nonneg (g := g) hf hn hd m
  have h1 := le_sumTo (F := hwP g n d (hw i g n d k) m) (m := g + 1) (fun j _ => h0 j) (k := j) (by omega)
  rw [hwP_sum m hm] at h1
  have h2 := sumTo_le (F := hw i g n d k) (m := g + 1) (fun j _ => hf j) m hm
  rw [hw_sum hi] at h2
  have h3 := pow6' (x := d) (by omega) (k := k + 1) (by omega)
  rw [Int.pow_succ] at h3
  have h4 := Int.mul_le_mul_of_nonneg_right h2 (show 0 ≤ d by omega)
  exact ⟨h0 j, by omega⟩
theorem fr_set1 (f g : Nat → Int) (n a : Nat) (u : Int) (hu : u = g a) (h : ∀ j, j < n → j ≠ a → f j = g j) : (fr f n).set a u = fr g n := by
  subst hu
  exact fr_set f g n a h
theorem fr_set2 (f g : Nat → Int) (n a b : Nat) (u v : Int) (hu : u = g a) (hv : v = g b) (h : ∀ j, j < n → j ≠ a → j ≠ b → f j = g j) : ((fr f n).set a u).set b v = fr g n := by
  subst hu hv
  have := fr_set3 f g n a b b fun j hj h1 h2 _ => h j hj h1 h2
  rwa [List.set_set] at this
theorem hwP_edge {g : Nat} {n d : Int} {f : Nat → Int} {s : Nat} (h : s = 0 ∨ s = g) (m : Nat) : (fr (hwP g n d f s) m).set s (hwP g n d f s s + f s * d) = fr (hwP g n d f (s + 1)) m := by
  refine fr_set1 _ _ _ _ _ ?_ fun j hj hne => ?_
  · show _ = hwP g n d f s s + hwS g n d f s s
    unfold hwS ind
    rw [if_pos h, if_pos rfl]
  · show _ = hwP g n d f s j + hwS g n d f s j
    unfold hwS ind
    rw [if_pos h, if_neg hne]
    omega
theorem hwP_mid {g : Nat} {n d : Int} {f : Nat → Int} {s : Nat} (h : ¬ (s + 1 = 0 ∨ s + 1 = g)) (m : Nat) :
    ((fr (hwP g n d f (s + 1)) m).set (s + 1 + 1) (hwP g n d f (s + 1) (s + 1 + 1) + f (s + 1) * n)).set s (hwP g n d f (s + 1) s + f (s + 1) * (d - n)) = fr (hwP g n d f (s + 1 + 1)) m := by
  refine fr_set2 _ _ _ _ _ _ _ ?_ ?_ fun j hj h1 h2 => ?_
  · show _ = hwP g n d f (s + 1) (s + 1 + 1) + hwS g n d f (s + 1) (s + 1 + 1)
    unfold hwS ind
    rw [if_neg h, if_pos rfl, if_neg (by omega)]
    omega
  · show _ = hwP g n d f (s + 1) s + hwS g n d f (s + 1) s
    unfold hwS ind
    rw [if_neg h, if_neg (by omega), if_pos (by omega)]
    omega
  · show _ = hwP g n d f (s + 1) j + hwS g n d f (s + 1) j
    unfold hwS ind
    rw [if_neg h, if_neg (by omega), if_neg (by omega)]
    omega
theorem hw_first (i g : Nat) : (List.replicate (g + 1) (0 : Int)).set i 1 = fr (ind i 1) (g + 1) := by
  apply List.ext_getElem
  · simp [fr]
  · intro j h1 h2
    simp only [fr, List.getElem_set, List.getElem_replicate, List.getElem_map, List.getElem_range, ind]
    by_cases e : i = j
    · subst e; simp
    · rw [if_neg e, if_neg (fun x => e x.symm)]
theorem hwP_zero (g : Nat) (n d : Int) (f : Nat → Int) (m : Nat) : List.replicate m (0 : Int) = fr (hwP g n d f 0) m := by
  apply List.ext_getElem
  · simp [fr]
  · intro j h1 h2
    simp [fr, hwP]
end Go.Proofs.Ytachijliaedndaa
