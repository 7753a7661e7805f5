/- Pack 5 of what FnRecordsTold needs: TchMath, BtwMath. -/
import Derived.Test.YtachijliaedndaaKFnRecordsTold4
/- Heights that are touched, counts by reflections: plain numbers. -/
namespace Go.Proofs.Ytachijliaedndaa
open Go.RowKit
set_option linter.unusedVariables false
/-- the least number of steps, from k on and at most n more, behind which the height is h, or -1 -/
def faGo (s : ByteArray) (h : Int) : Nat → Nat → Int
  | 0, _ => -1
  | n + 1, k => if hAt s k = h then k else faGo s h n (k + 1)
def faZ (s : ByteArray) (h : Int) : Int := faGo s h (s.size + 1) 0
theorem faGo_bd (s : ByteArray) (h : Int) : ∀ n k, faGo s h n k = -1 ∨ ((k : Int) ≤ faGo s h n k ∧ faGo s h n k < k + n)
  | 0, k => .inl rfl
  | n + 1, k => by
    rw [faGo]
    split
    · exact .inr (by omega)
    · rcases faGo_bd s h n (k + 1) with e | e
      · exact .inl e
      · exact .inr (by omega)
theorem faZ_bd (s : ByteArray) (h : Int) : -1 ≤ faZ s h ∧ faZ s h ≤ s.size := by
  have := faGo_bd s h (s.size + 1) 0
  unfold faZ
  omega
/-- the greatest one among the first k -/
def laTo (s : ByteArray) (h : Int) : Nat → Int
  | 0 => -1
  | k + 1 => if hAt s k = h then k else laTo s h k
def laZ (s : ByteArray) (h : Int) : Int := laTo s h (s.size + 1)
theorem laTo_bd (s : ByteArray) (h : Int) : ∀ k, -1 ≤ laTo s h k ∧ laTo s h k < k
  | 0 => by simp [laTo]
  | k + 1 => by
    have := laTo_bd s h k
    rw [laTo]
    split <;> omega
theorem laTo_yes {s : ByteArray} {h : Int} {k : Nat} (e : (hAt s k == h) = true) : laTo s h (k + 1) = k := by rw [laTo, if_pos (by simpa using e)]
theorem laTo_no {s : ByteArray} {h : Int} {k : Nat} (e : (hAt s k == h) = false) : laTo s h (k + 1) = laTo s h k := by rw [laTo, if_neg (by simpa using e)]
/-- how many paths of n steps lead to h -/
def toZ (n h : Int) : Int := if (n + h) % 2 ≠ 0 ∨ h < -n ∨ n < h then 0 else chZ n ((n + h) / 2)
theorem toZ_bd (n h : Int) (hn : n ≤ 40) : 0 ≤ toZ n h ∧ toZ n h ≤ 1099511627776 := by
  unfold toZ
  split
  · omega
  · exact chZ_bd _ _ hn
def tchZ (n e h : Int) : Int := if inB h (if 0 < e then 0 else e) (if e < 0 then 0 else e) = true then toZ n e else toZ n (2 * h - e)
theorem tchZ_bd (n e h : Int) (hn : n ≤ 40) : 0 ≤ tchZ n e h ∧ tchZ n e h ≤ 1099511627776 := by
  unfold tchZ
  generalize inB h (if 0 < e then 0 else e) (if e < 0 then 0 else e) = b
  cases b
  · rw [if_neg (by simp)]; exact toZ_bd _ _ hn
  · rw [if_pos rfl]; exact toZ_bd _ _ hn
/-- the sum of the first j terms, from k = -n on -/
def btTo (n e lo hi : Int) : Nat → Int
  | 0 => 0
  | j + 1 => btTo n e lo hi j + (toZ n (e + 2 * ((j : Int) - n) * (hi - lo + 2)) - toZ n (2 * (hi + 1) - e + 2 * ((j : Int) - n) * (hi - lo + 2)))
theorem btTo_bd (n e lo hi : Int) (hn : n ≤ 40) : ∀ j : Nat, -(1099511627776 * (j : Int)) ≤ btTo n e lo hi j ∧ btTo n e lo hi j ≤ 1099511627776 * j
  | 0 => by simp [btTo]
  | j + 1 => by
    have h1 := btTo_bd n e lo hi hn j
    have h2 := toZ_bd n (e + 2 * ((j : Int) - n) * (hi - lo + 2)) hn
    have h3 := toZ_bd n (2 * (hi + 1) - e + 2 * ((j : Int) - n) * (hi - lo + 2)) hn
    rw [btTo]
    omega
def btZ (n e lo hi : Int) : Int := if inB e lo hi = true then btTo n e lo hi (2 * n + 1).toNat else 0
theorem btZ_bd (n e lo hi : Int) (hn : 0 ≤ n ∧ n ≤ 40) : -(89060441849856) ≤ btZ n e lo hi ∧ btZ n e lo hi ≤ 89060441849856 := by
  unfold btZ
  split
  · have := btTo_bd n e lo hi hn.2 (2 * n + 1).toNat
    omega
  · omega
end Go.Proofs.Ytachijliaedndaa

/- Paths between walls: their numbers by reflections, by first steps, by jumps from wall to wall; their list. Plain numbers and lists. -/
namespace Go.Proofs.Ytachijliaedndaa
open Go.RowKit
set_option linter.unusedVariables false
/-- how many paths of n steps lead to x, by last steps -/
def tz : Nat → Int → Int
  | 0, x => if x = 0 then 1 else 0
  | n + 1, x => tz n (x - 1) + tz n (x + 1)
theorem tz_neg : ∀ (n : Nat) (x : Int), tz n (-x) = tz n x
  | 0, x => by
    unfold tz
    by_cases h : x = 0
    · rw [if_pos h, if_pos (by omega)]
    · rw [if_neg h, if_neg (by omega)]
  | n + 1, x => by
    rw [tz, tz, show -x - 1 = -(x + 1) by omega, show -x + 1 = -(x - 1) by omega, tz_neg n, tz_neg n]
    omega
theorem tz_out : ∀ (n : Nat) (x : Int), (x < -(n : Int) ∨ (n : Int) < x) → tz n x = 0
  | 0, x, h => by unfold tz; rw [if_neg (by omega)]
  | n + 1, x, h => by rw [tz, tz_out n (x - 1) (by omega), tz_out n (x + 1) (by omega)]; rfl
theorem tz_par : ∀ (n : Nat) (x : Int), ((n : Int) + x) % 2 ≠ 0 → tz n x = 0
  | 0, x, h => by unfold tz; rw [if_neg (by omega)]
  | n + 1, x, h => by rw [tz, tz_par n (x - 1) (by omega), tz_par n (x + 1) (by omega)]; rfl
theorem tz_chs : ∀ (n k : Nat), tz n (2 * (k : Int) - n) = (chs n k : Nat)
  | 0, 0 => rfl
  | 0, k + 1 => by rw [tz_out 0 _ (by omega), chs_lt 0 (k + 1) (by omega)]; rfl
  | n + 1, 0 => by
    rw [tz, tz_out n _ (by omega), show (2 * ((0 : Nat) : Int) - (n + 1 : Nat) + 1) = 2 * ((0 : Nat) : Int) - n by omega, tz_chs n 0, chs_zero, chs_zero]
    rfl
  | n + 1, k + 1 => by
    rw [tz, show (2 * ((k + 1 : Nat) : Int) - (n + 1 : Nat) - 1) = 2 * (k : Int) - n by omega, show (2 * ((k + 1 : Nat) : Int) - (n + 1 : Nat) + 1) = 2 * ((k + 1 : Nat) : Int) - n by omega, tz_chs n k, tz_chs n (k + 1), chs_succ]
    omega
theorem toZ_tz (n : Nat) (h : Int) : toZ n h = tz n h := by
  unfold toZ
  by_cases hc : ((n : Int) + h) % 2 ≠ 0 ∨ h < -(n : Int) ∨ (n : Int) < h
  · rw [if_pos hc]
    rcases hc with hc | hc
    · exact (tz_par n h hc).symm
    · exact (tz_out n h hc).symm
  · rw [if_neg hc]
    obtain ⟨k, hk⟩ : ∃ k : Nat, h = 2 * (k : Int) - n := ⟨(((n : Int) + h) / 2).toNat, by omega⟩
    subst hk
    rw [tz_chs, show ((n : Int) + (2 * (k : Int) - n)) / 2 = (k : Nat) by omega, chZ_nat]
/-! ### sums -/
def symS (t : Int → Int) : Nat → Int
  | 0 => t 0
  | m + 1 => symS t m + (t ((m : Int) + 1) + t (-((m : Int) + 1)))
def linS (t : Int → Int) (a : Int) : Nat → Int
  | 0 => 0
  | m + 1 => linS t a m + t (a + m)
theorem linS_front (t : Int → Int) (a : Int) : ∀ m, linS t a (m + 1) = t a + linS t (a + 1) m
  | 0 => by rw [linS, linS, linS, show a + ((0 : Nat) : Int) = a by omega]; omega
  | m + 1 => by
    have e1 : linS t a (m + 1 + 1) = linS t a (m + 1) + t (a + ((m + 1 : Nat) : Int)) := rfl
    have e2 : linS t (a + 1) (m + 1) = linS t (a + 1) m + t (a + 1 + (m : Int)) := rfl
    rw [e1, e2, linS_front t a m, show a + ((m + 1 : Nat) : Int) = a + 1 + m by omega]
    omega
theorem linS_sym (t : Int → Int) : ∀ n : Nat, linS t (-(n : Int)) (2 * n + 1) = symS t n
  | 0 => by
    rw [symS]
    show linS t (-((0 : Nat) : Int)) 0 + t (-((0 : Nat) : Int) + ((0 : Nat) : Int)) = t 0
    rw [linS, show (-((0 : Nat) : Int) + ((0 : Nat) : Int)) = 0 by omega]
    omega
  | n + 1 => by
    rw [show 2 * (n + 1) + 1 = (2 * n + 1) + 1 + 1 by omega, linS, linS_front, show -((n + 1 : Nat) : Int) + 1 = -(n : Int) by omega, linS_sym t n, symS,
      show -((n + 1 : Nat) : Int) + ((2 * n + 1 + 1 : Nat) : Int) = (n : Int) + 1 by omega, show -((n + 1 : Nat) : Int) = -((n : Int) + 1) by omega]
    omega
theorem linS_shift (t : Int → Int) (a : Int) : ∀ m, linS t (a + 1) m = linS (fun i => t (i + 1)) a m
  | 0 => rfl
  | m + 1 => by rw [linS, linS, linS_shift t a m, show a + 1 + (m : Int) = a + m + 1 by omega]
theorem symS_add (f g : Int → Int) : ∀ m, symS (fun k => f k + g k) m = symS f m + symS g m
  | 0 => rfl
  | m + 1 => by rw [symS, symS, symS, symS_add f g m]; omega
theorem symS_cut (t : Int → Int) (n : Nat) (h : ∀ k : Int, ((n : Int) < k ∨ k < -(n : Int)) → t k = 0) : ∀ m : Nat, symS t (n + m) = symS t n
  | 0 => rfl
  | m + 1 => by
    rw [show n + (m + 1) = (n + m) + 1 by omega, symS, symS_cut t n h m, h _ (by omega), h _ (by omega)]
    omega
theorem symS_odd (t : Int → Int) (h : ∀ k, t (-k) = -(t k)) : ∀ m, symS t m = 0
  | 0 => by have := h 0; rw [symS]; rw [show (-0 : Int) = 0 by omega] at this; omega
  | m + 1 => by rw [symS, symS_odd t h m, h]; omega
theorem symS_tel (f : Int → Int) : ∀ m : Nat, symS (fun k => f k - f (-(k + 1))) m = f m - f (-((m : Int) + 1))
  | 0 => by
    show f 0 - f (-(0 + 1)) = _
    rfl
  | m + 1 => by
    rw [symS, symS_tel f m]
    show f m - f (-((m : Int) + 1)) + (f ((m : Int) + 1) - f (-((m : Int) + 1 + 1)) + (f (-((m : Int) + 1)) - f (-(-((m : Int) + 1) + 1)))) = f ((m + 1 : Nat) : Int) - f (-(((m + 1 : Nat) : Int) + 1))
    rw [show -(-((m : Int) + 1) + 1) = (m : Int) by omega, show ((m + 1 : Nat) : Int) = (m : Int) + 1 by omega]
    omega
/-! ### the reflections between the walls a and b, from s to e -/
def gT (a b : Int) (n : Nat) (s e k : Int) : Int := tz n (e - s + 2 * (k * (b - a))) - tz n (2 * b - e - s + 2 * (k * (b - a)))
def gS (a b : Int) (K n : Nat) (s e : Int) : Int := symS (gT a b n s e) K
theorem gS_step (a b : Int) (K n : Nat) (s e : Int) : gS a b K (n + 1) s e = gS a b K n (s - 1) e + gS a b K n (s + 1) e := by
  unfold gS
  rw [← symS_add]
  congr 1
  funext k
  unfold gT
  rw [tz, tz, show e - (s - 1) + 2 * (k * (b - a)) = e - s + 2 * (k * (b - a)) + 1 by omega, show e - (s + 1) + 2 * (k * (b - a)) = e - s + 2 * (k * (b - a)) - 1 by omega,
    show 2 * b - e - (s - 1) + 2 * (k * (b - a)) = 2 * b - e - s + 2 * (k * (b - a)) + 1 by omega, show 2 * b - e - (s + 1) + 2 * (k * (b - a)) = 2 * b - e - s + 2 * (k * (b - a)) - 1 by omega]
  omega
theorem gS_high (a b : Int) (K n : Nat) (e : Int) : gS a b K n b e = 0 := by
  unfold gS
  apply symS_odd
  intro k
  unfold gT
  rw [Int.neg_mul, show e - b + 2 * -(k * (b - a)) = -(2 * b - e - b + 2 * (k * (b - a))) by omega, show 2 * b - e - b + 2 * -(k * (b - a)) = -(e - b + 2 * (k * (b - a))) by omega, tz_neg, tz_neg]
  omega
theorem kW_ge {k : Int} {W : Int} {m : Int} (hW : 2 ≤ W) (h0 : 0 ≤ m) (hk : m ≤ k) : m * W ≤ k * W ∧ 2 * m ≤ m * W := by
  refine ⟨Int.mul_le_mul_of_nonneg_right hk (by omega), ?_⟩
  have := Int.mul_le_mul_of_nonneg_left hW h0
  omega
theorem kW_le {k : Int} {W : Int} {m : Int} (hW : 2 ≤ W) (h0 : 0 ≤ m) (hk : k ≤ -m) : k * W ≤ -(m * W) ∧ 2 * m ≤ m * W := by
  have := kW_ge (k := -k) hW h0 (by omega)
  rw [Int.neg_mul] at this
  omega
theorem gS_low {a b : Int} {K n : Nat} {e : Int} (hab : a + 2 ≤ b) (he : a < e ∧ e < b) (hn : n ≤ K) : gS a b K n a e = 0 := by
  have hf : gT a b n a e = fun k => (fun k => tz n (e - a + 2 * (k * (b - a)))) k - (fun k => tz n (e - a + 2 * (k * (b - a)))) (-(k + 1)) := by
    funext k
    unfold gT
    show _ = tz n (e - a + 2 * (k * (b - a))) - tz n (e - a + 2 * (-(k + 1) * (b - a)))
    rw [Int.neg_mul, Int.add_mul, Int.one_mul, show 2 * b - e - a + 2 * (k * (b - a)) = -(e - a + 2 * -(k * (b - a) + (b - a))) by omega, tz_neg]
  unfold gS
  rw [hf, symS_tel]
  show tz n (e - a + 2 * ((K : Int) * (b - a))) - tz n (e - a + 2 * (-((K : Int) + 1) * (b - a))) = 0
  have h1 := kW_ge (k := K) (W := b - a) (m := K) (by omega) (by omega) (Int.le_refl _)
  rw [Int.neg_mul, Int.add_mul, Int.one_mul, tz_out n _ (by omega), tz_out n _ (by omega)]
  rfl
theorem gT_far {a b : Int} {n : Nat} {s e k : Int} (hs : a < s ∧ s < b) (he : a < e ∧ e < b) (hk : (n : Int) < k ∨ k < -(n : Int)) : gT a b n s e k = 0 := by
  unfold gT
  rcases hk with hk | hk
  · have h1 := kW_ge (k := k) (W := b - a) (m := (n : Int) + 1) (by omega) (by omega) (by omega)
    rw [Int.add_mul, Int.one_mul] at h1
    have h2 := kW_ge (k := n) (W := b - a) (m := n) (by omega) (by omega) (Int.le_refl _)
    rw [tz_out n _ (by omega), tz_out n _ (by omega)]
    rfl
  · have h1 := kW_le (k := k) (W := b - a) (m := (n : Int) + 1) (by omega) (by omega) (by omega)
    rw [Int.add_mul, Int.one_mul] at h1
    have h2 := kW_ge (k := n) (W := b - a) (m := n) (by omega) (by omega) (Int.le_refl _)
    rw [tz_out n _ (by omega), tz_out n _ (by omega)]
    rfl
theorem gS_cut {a b : Int} {K n : Nat} {s e : Int} (hs : a < s ∧ s < b) (he : a < e ∧ e < b) (hn : n ≤ K) : gS a b K n s e = gS a b n n s e := by
  unfold gS
  have := symS_cut (gT a b n s e) n (fun k hk => gT_far hs he hk) (K - n)
  rw [← this, show n + (K - n) = K by omega]
theorem gS_zero {a b : Int} {K : Nat} {s e : Int} (hs : a < s ∧ s < b) (he : a < e ∧ e < b) : gS a b K 0 s e = if s = e then 1 else 0 := by
  rw [gS_cut hs he (Nat.zero_le K)]
  unfold gS
  rw [symS]
  unfold gT
  rw [Int.zero_mul, tz_out 0 (2 * b - e - s + 2 * 0) (by omega)]
  unfold tz
  by_cases h : s = e
  · rw [if_pos h, if_pos (by omega)]; rfl
  · rw [if_neg h, if_neg (by omega)]; rfl
/-! ### by first steps -/
def cw (lo hi : Int) : Nat → Int → Int → Int
  | 0, s, e => if s = e then 1 else 0
  | n + 1, s, e => (if lo ≤ s - 1 then cw lo hi n (s - 1) e else 0) + (if s + 1 ≤ hi then cw lo hi n (s + 1) e else 0)
theorem cw_nn (lo hi : Int) : ∀ n s e, 0 ≤ cw lo hi n s e
  | 0, s, e => by unfold cw; split <;> omega
  | n + 1, s, e => by
    have h1 := cw_nn lo hi n (s - 1) e
    have h2 := cw_nn lo hi n (s + 1) e
    rw [cw]
    split <;> split <;> omega
theorem cw_far (lo hi : Int) : ∀ (n : Nat) (s e : Int), ((n : Int) < e - s ∨ e - s < -(n : Int)) → cw lo hi n s e = 0
  | 0, s, e, h => by unfold cw; rw [if_neg (by omega)]
  | n + 1, s, e, h => by rw [cw, cw_far lo hi n (s - 1) e (by omega), cw_far lo hi n (s + 1) e (by omega)]; simp
theorem cw_out {lo hi : Int} : ∀ (n : Nat) (s e : Int), (lo ≤ s ∧ s ≤ hi) → (e < lo ∨ hi < e) → cw lo hi n s e = 0
  | 0, s, e, hs, h => by unfold cw; rw [if_neg (by omega)]
  | n + 1, s, e, hs, h => by
    rw [cw]
    by_cases h1 : lo ≤ s - 1
    · rw [if_pos h1, cw_out n (s - 1) e (by omega) h]
      by_cases h2 : s + 1 ≤ hi
      · rw [if_pos h2, cw_out n (s + 1) e (by omega) h]; rfl
      · rw [if_neg h2]; rfl
    · rw [if_neg h1]
      by_cases h2 : s + 1 ≤ hi
      · rw [if_pos h2, cw_out n (s + 1) e (by omega) h]; rfl
      · rw [if_neg h2]; rfl
theorem gS_cw {lo hi : Int} {K : Nat} : ∀ (n : Nat) (s e : Int), n ≤ K → (lo ≤ s ∧ s ≤ hi) → (lo ≤ e ∧ e ≤ hi) → gS (lo - 1) (hi + 1) K n s e = cw lo hi n s e
  | 0, s, e, hn, hs, he => by rw [gS_zero (by omega) (by omega), cw]
  | n + 1, s, e, hn, hs, he => by
    rw [gS_step, cw]
    congr 1
    · by_cases h : lo ≤ s - 1
      · rw [if_pos h]; exact gS_cw n (s - 1) e (by omega) (by omega) he
      · rw [if_neg h, show s - 1 = lo - 1 by omega]; exact gS_low (by omega) (by omega) (by omega)
    · by_cases h : s + 1 ≤ hi
      · rw [if_pos h]; exact gS_cw n (s + 1) e (by omega) (by omega) he
      · rw [if_neg h, show s + 1 = hi + 1 by omega]; exact gS_high _ _ _ _ _
theorem btTo_lin (n : Nat) (e lo hi s : Int) : ∀ j : Nat, btTo n (e - s) (lo - s) (hi - s) j = linS (gT (lo - 1) (hi + 1) n s e) (-(n : Int)) j
  | 0 => rfl
  | j + 1 => by
    rw [btTo, linS, btTo_lin n e lo hi s j]
    congr 1
    unfold gT
    rw [toZ_tz, toZ_tz, Int.mul_assoc, show (j : Int) - n = -(n : Int) + j by omega, show hi - s - (lo - s) + 2 = hi + 1 - (lo - 1) by omega, show 2 * (hi - s + 1) - (e - s) = 2 * (hi + 1) - e - s by omega]
theorem btZ_gS {n : Nat} {s e lo hi : Int} (he : lo ≤ e ∧ e ≤ hi) : btZ n (e - s) (lo - s) (hi - s) = gS (lo - 1) (hi + 1) n n s e := by
  unfold btZ
  rw [if_pos (by unfold inB; simp; omega), show (2 * (n : Int) + 1).toNat = 2 * n + 1 by omega, btTo_lin, linS_sym]
  rfl
theorem btZ_cw {n : Nat} {s e lo hi : Int} (hs : lo ≤ s ∧ s ≤ hi) : btZ n (e - s) (lo - s) (hi - s) = cw lo hi n s e := by
  by_cases he : lo ≤ e ∧ e ≤ hi
  · rw [btZ_gS he]
    exact gS_cw n s e (Nat.le_refl n) hs he
  · rw [cw_out n s e hs (by omega)]
    unfold btZ
    rw [if_neg (by unfold inB; simp; omega)]
/-! ### the list -/
def btL (lo hi : Int) : Nat → Int → Int → Int → List (List UInt8)
  | 0, _, _, _ => [[]]
  | n + 1, at', u, d => (if 0 < d ∧ lo ≤ at' - 1 then (btL lo hi n (at' - 1) u (d - 1)).map (fun t => (68 : UInt8) :: t) else []) ++ (if 0 < u ∧ at' + 1 ≤ hi then (btL lo hi n (at' + 1) (u - 1) d).map (fun t => (85 : UInt8) :: t) else [])
theorem btL_len {lo hi : Int} : ∀ (n : Nat) (s u d : Int), 0 ≤ u → 0 ≤ d → (n : Int) = u + d → ((btL lo hi n s u d).length : Int) = cw lo hi n s (s + u - d)
  | 0, s, u, d, hu, hd, hn => by rw [btL, cw, if_pos (by omega)]; rfl
  | n + 1, s, u, d, hu, hd, hn => by
    rw [btL, cw, List.length_append, Int.natCast_add]
    congr 1
    · by_cases h1 : lo ≤ s - 1
      · rw [if_pos h1]
        by_cases h2 : 0 < d
        · have := btL_len (lo := lo) (hi := hi) n (s - 1) u (d - 1) hu (by omega) (by omega)
          rw [if_pos ⟨h2, h1⟩, List.length_map, this, show s - 1 + u - (d - 1) = s + u - d by omega]
        · rw [if_neg (by omega), cw_far _ _ _ _ _ (by omega)]; rfl
      · rw [if_neg h1, if_neg (by omega)]; rfl
    · by_cases h1 : s + 1 ≤ hi
      · rw [if_pos h1]
        by_cases h2 : 0 < u
        · have := btL_len (lo := lo) (hi := hi) n (s + 1) (u - 1) d (by omega) hd (by omega)
          rw [if_pos ⟨h2, h1⟩, List.length_map, this, show s + 1 + (u - 1) - d = s + u - d by omega]
        · rw [if_neg (by omega), cw_far _ _ _ _ _ (by omega)]; rfl
      · rw [if_neg h1, if_neg (by omega)]; rfl
theorem btL_count {lo hi : Int} {n : Nat} {s u d : Int} (hu : 0 ≤ u) (hd : 0 ≤ d) (hn : (n : Int) = u + d) (hs : lo ≤ s ∧ s ≤ hi) : ((btL lo hi n s u d).length : Int) = btZ (u + d) (u - d) (lo - s) (hi - s) := by
  rw [btL_len n s u d hu hd hn, ← btZ_cw hs, hn, show s + u - d - s = u - d by omega]
theorem btL_le (lo hi : Int) : ∀ (n : Nat) (s u d : Int), (btL lo hi n s u d).length ≤ 2 ^ n
  | 0, _, _, _ => by simp [btL]
  | n + 1, s, u, d => by
    have h1 := btL_le lo hi n (s - 1) u (d - 1)
    have h2 := btL_le lo hi n (s + 1) (u - 1) d
    rw [btL, List.length_append, Nat.pow_succ]
    split <;> split <;> simp only [List.length_map, List.length_nil] <;> omega
/-! ### jumps from wall to wall -/
def jS : Nat → Nat → Int → Int → Int → Int
  | 0, _, _, _, _ => 0
  | m + 1, n, e, a, b => tz n (2 * a - e) - jS m n (2 * a - e) b a
theorem jS_lin (n : Nat) : ∀ (m : Nat) (e a b : Int), jS (2 * m) n e a b = linS (fun i => tz n (2 * a - e - 2 * (i * (b - a))) - tz n (e + 2 * ((i + 1) * (b - a)))) 0 m
  | 0, e, a, b => rfl
  | m + 1, e, a, b => by
    rw [show 2 * (m + 1) = 2 * m + 1 + 1 by omega, jS, jS, jS_lin n m, linS_front, linS_shift, Int.zero_mul, Int.zero_add, Int.one_mul, show 2 * a - e - 2 * 0 = 2 * a - e by omega, show 2 * b - (2 * a - e) = e + 2 * (b - a) by omega]
    have : (fun i : Int => tz n (2 * a - (e + 2 * (b - a)) - 2 * (i * (b - a))) - tz n (e + 2 * (b - a) + 2 * ((i + 1) * (b - a)))) = fun i => tz n (2 * a - e - 2 * ((i + 1) * (b - a))) - tz n (e + 2 * ((i + 1 + 1) * (b - a))) := by
      funext i
      rw [Int.add_mul (i + 1) 1, Int.add_mul i 1, Int.one_mul, show 2 * a - (e + 2 * (b - a)) - 2 * (i * (b - a)) = 2 * a - e - 2 * (i * (b - a) + (b - a)) by omega, show e + 2 * (b - a) + 2 * (i * (b - a) + (b - a)) = e + 2 * (i * (b - a) + (b - a) + (b - a)) by omega]
    rw [this]
    omega
theorem jS_all (n : Nat) (e a b : Int) : ∀ m : Nat, tz n e - jS (2 * m) n e a b - jS (2 * m) n e b a = symS (gT a b n 0 e) m + tz n (2 * b - e + 2 * ((m : Int) * (b - a)))
  | 0 => by
    show tz n e - 0 - 0 = gT a b n 0 e 0 + tz n (2 * b - e + 2 * ((0 : Int) * (b - a)))
    unfold gT
    rw [Int.zero_mul, show e - 0 + 2 * 0 = e by omega, show 2 * b - e - 0 + 2 * 0 = 2 * b - e + 2 * 0 by omega]
    omega
  | m + 1 => by
    have h := jS_all n e a b m
    rw [jS_lin, jS_lin] at h ⊢
    rw [linS, linS, symS]
    unfold gT at h ⊢
    have e1 : (0 : Int) + (m : Int) = m := by omega
    have e2 : ((m + 1 : Nat) : Int) = (m : Int) + 1 := by omega
    rw [e1, e2]
    have n1 : (m : Int) * (a - b) = -((m : Int) * (b - a)) := by rw [← Int.mul_neg]; congr 1; omega
    have n2 : ((m : Int) + 1) * (a - b) = -((m : Int) * (b - a) + (b - a)) := by rw [Int.add_mul, n1, Int.one_mul]; omega
    rw [n1, n2, Int.neg_mul, Int.add_mul, Int.one_mul]
    generalize (m : Int) * (b - a) = z at *
    rw [show 2 * b - e - 2 * -z = 2 * b - e + 2 * z by omega, show e + 2 * -(z + (b - a)) = e - 2 * (z + (b - a)) by omega, show e - 0 + 2 * (z + (b - a)) = e + 2 * (z + (b - a)) by omega,
      show e - 0 + 2 * -(z + (b - a)) = e - 2 * (z + (b - a)) by omega, show 2 * b - e - 0 + 2 * (z + (b - a)) = 2 * b - e + 2 * (z + (b - a)) by omega, show 2 * b - e - 0 + 2 * -(z + (b - a)) = 2 * a - e - 2 * z by omega]
    omega
theorem jS_btZ {n : Nat} {e a b : Int} (ha : a < 0) (hb : 0 < b) (he : a < e ∧ e < b) (hn : n ≤ 50) : tz n e - jS 100 n e a b - jS 100 n e b a = btZ n e (a + 1) (b - 1) := by
  have h := jS_all n e a b 50
  have h1 := kW_ge (k := ((50 : Nat) : Int)) (W := b - a) (m := ((50 : Nat) : Int)) (by omega) (by omega) (by omega)
  rw [tz_out n (2 * b - e + 2 * (((50 : Nat) : Int) * (b - a))) (by omega)] at h
  have h2 := gS_cut (K := 50) (n := n) (s := 0) (e := e) (a := a) (b := b) (by omega) he hn
  have h3 := btZ_gS (n := n) (s := 0) (e := e) (lo := a + 1) (hi := b - 1) (by omega)
  rw [show e - 0 = e by omega, show a + 1 - 0 = a + 1 by omega, show b - 1 - 0 = b - 1 by omega, show a + 1 - 1 = a by omega, show b - 1 + 1 = b by omega, ← h2] at h3
  rw [h3]
  unfold gS
  rw [show 100 = 2 * 50 by rfl, h]
  omega
/-- the side on which an end is, ahead of a jump -/
def JSide (w o x : Int) : Prop := (w < 0 ∧ 0 < o ∧ w < x) ∨ (0 < w ∧ o < 0 ∧ x < w)
theorem JSide.jump {w o x : Int} (h : JSide w o x) : JSide o w (2 * w - x) := by unfold JSide at *; omega
theorem JSide.far {w o x : Int} (h : JSide w o x) : x.natAbs < (2 * w - x).natAbs := by unfold JSide at h; omega
theorem tz_next {n : Nat} {w o x : Int} (h : JSide w o x) (hz : tz n x = 0) (hx : (n : Int) < x.natAbs ∨ ((n : Int) + x) % 2 ≠ 0) : tz n (2 * w - x) = 0 ∧ ((n : Int) < (2 * w - x).natAbs ∨ ((n : Int) + (2 * w - x)) % 2 ≠ 0) := by
  have := h.far
  rcases hx with hx | hx
  · exact ⟨tz_out n _ (by omega), .inl (by omega)⟩
  · exact ⟨tz_par n _ (by omega), .inr (by omega)⟩
theorem chs_ne {n k : Nat} (h : k ≤ n) : chs n k ≠ 0 := by have := chs_pos n k h; omega
/-- a number of ways is 0 just where the end is too far or odd -/
theorem tz_zero {n : Nat} {x : Int} (h : tz n x = 0) : (n : Int) < x.natAbs ∨ ((n : Int) + x) % 2 ≠ 0 := by
  by_cases h2 : ((n : Int) + x) % 2 = 0
  · left
    by_cases h1 : (n : Int) < x.natAbs
    · exact h1
    · exfalso
      obtain ⟨k, hk⟩ : ∃ k : Nat, x = 2 * (k : Int) - n := ⟨(((n : Int) + x) / 2).toNat, by omega⟩
      have hkn : k ≤ n := by omega
      rw [hk, tz_chs] at h
      have := chs_pos n k hkn
      omega
  · exact .inr h2
theorem jS_none {n : Nat} : ∀ (m : Nat) (x a b : Int), JSide a b x → tz n (2 * a - x) = 0 → jS m n x a b = 0
  | 0, _, _, _, _, _ => rfl
  | m + 1, x, a, b, h, hz => by
    rw [jS, hz]
    have h2 := tz_next h.jump hz (tz_zero hz)
    rw [jS_none m (2 * a - x) b a h.jump h2.1]
    rfl
theorem tz_near {n : Nat} {x : Int} (h : tz n x ≠ 0) : x.natAbs ≤ n := by
  by_cases h1 : (n : Int) < x.natAbs
  · exact absurd (tz_out n x (by omega)) h
  · omega
/-! ### the beginnings, one step more each -/
def upN (p : List UInt8) : Nat := p.countP (· == 85)
def dnN (p : List UInt8) : Nat := p.countP (· == 68)
def nxtB (lo hi s u d : Int) (p : List UInt8) : List (List UInt8) :=
  (if 0 < d - dnN p ∧ lo ≤ s + upN p - dnN p - 1 then [p ++ [68]] else []) ++ (if 0 < u - upN p ∧ s + upN p - dnN p + 1 ≤ hi then [p ++ [85]] else [])
theorem nxt_down (lo hi s u d : Int) (p : List UInt8) : nxtB lo hi s u d (68 :: p) = (nxtB lo hi (s - 1) u (d - 1) p).map (fun t => (68 : UInt8) :: t) := by
  have h1 : upN (68 :: p) = upN p := by unfold upN; rw [List.countP_cons]; rfl
  have h2 : dnN (68 :: p) = dnN p + 1 := by unfold dnN; rw [List.countP_cons]; rfl
  unfold nxtB
  rw [h1, h2, List.map_append]
  congr 1
  · by_cases h : 0 < d - 1 - (dnN p : Int) ∧ lo ≤ s - 1 + upN p - dnN p - 1
    · rw [if_pos (by omega), if_pos h]; rfl
    · rw [if_neg (by omega), if_neg h]; rfl
  · by_cases h : 0 < u - (upN p : Int) ∧ s - 1 + upN p - dnN p + 1 ≤ hi
    · rw [if_pos (by omega), if_pos h]; rfl
    · rw [if_neg (by omega), if_neg h]; rfl
theorem nxt_up (lo hi s u d : Int) (p : List UInt8) : nxtB lo hi s u d (85 :: p) = (nxtB lo hi (s + 1) (u - 1) d p).map (fun t => (85 : UInt8) :: t) := by
  have h1 : upN (85 :: p) = upN p + 1 := by unfold upN; rw [List.countP_cons]; rfl
  have h2 : dnN (85 :: p) = dnN p := by unfold dnN; rw [List.countP_cons]; rfl
  unfold nxtB
  rw [h1, h2, List.map_append]
  congr 1
  · by_cases h : 0 < d - (dnN p : Int) ∧ lo ≤ s + 1 + upN p - dnN p - 1
    · rw [if_pos (by omega), if_pos h]; rfl
    · rw [if_neg (by omega), if_neg h]; rfl
  · by_cases h : 0 < u - 1 - (upN p : Int) ∧ s + 1 + upN p - dnN p + 1 ≤ hi
    · rw [if_pos (by omega), if_pos h]; rfl
    · rw [if_neg (by omega), if_neg h]; rfl
theorem nxt_nil (lo hi s u d : Int) : nxtB lo hi s u d [] = btL lo hi 1 s u d := by
  unfold nxtB
  have h1 : upN [] = 0 := rfl
  have h2 : dnN [] = 0 := rfl
  rw [btL, h1, h2, btL, btL]
  congr 1
  · by_cases h : 0 < d ∧ lo ≤ s - 1
    · rw [if_pos (by omega), if_pos h]; rfl
    · rw [if_neg (by omega), if_neg h]
  · by_cases h : 0 < u ∧ s + 1 ≤ hi
    · rw [if_pos (by omega), if_pos h]; rfl
    · rw [if_neg (by omega), if_neg h]
theorem flat_cons (c : UInt8) (f g : List UInt8 → List (List UInt8)) (h : ∀ p, f (c :: p) = (g p).map (fun t => c :: t)) : ∀ L : List (List UInt8), (L.map (fun t => c :: t)).flatMap f = (L.flatMap g).map (fun t => c :: t)
  | [] => rfl
  | p :: L => by rw [List.map_cons, List.flatMap_cons, List.flatMap_cons, List.map_append, h, flat_cons c f g h L]
theorem btL_succ {lo hi : Int} : ∀ (n : Nat) (s u d : Int), btL lo hi (n + 1) s u d = (btL lo hi n s u d).flatMap (nxtB lo hi s u d)
  | 0, s, u, d => by
    rw [show btL lo hi 0 s u d = [[]] from rfl, List.flatMap_cons, List.flatMap_nil, List.append_nil, nxt_nil]
  | n + 1, s, u, d => by
    have e1 : btL lo hi (n + 1) s u d = (if 0 < d ∧ lo ≤ s - 1 then (btL lo hi n (s - 1) u (d - 1)).map (fun t => (68 : UInt8) :: t) else []) ++ (if 0 < u ∧ s + 1 ≤ hi then (btL lo hi n (s + 1) (u - 1) d).map (fun t => (85 : UInt8) :: t) else []) := rfl
    rw [e1, List.flatMap_append, btL]
    congr 1
    · by_cases h : 0 < d ∧ lo ≤ s - 1
      · rw [if_pos h, if_pos h, flat_cons 68 _ _ (nxt_down lo hi s u d), btL_succ n]
      · rw [if_neg h, if_neg h]; rfl
    · by_cases h : 0 < u ∧ s + 1 ≤ hi
      · rw [if_pos h, if_pos h, flat_cons 85 _ _ (nxt_up lo hi s u d), btL_succ n]
      · rw [if_neg h, if_neg h]; rfl
end Go.Proofs.Ytachijliaedndaa
