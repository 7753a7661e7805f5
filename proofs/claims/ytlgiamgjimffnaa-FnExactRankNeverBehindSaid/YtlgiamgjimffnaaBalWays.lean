/- How many ways a path goes on and stays at a margin: by first steps, by last steps, by a formula. -/
import Derived.Test.YtlgiamgjimffnaaBalMath
import Derived.Test.YtlgiamgjimffnaaChMath
namespace Go.Proofs.Ytlgiamgjimffnaa
open Go.RowKit

/-- from the margin m, with u ups and d downs left, n = u + d: how many ways stay at l or above -/
def rs (k l : Int) : Nat → Int → Nat → Nat → Nat
  | 0, m, _, _ => if m < l then 0 else 1
  | n + 1, m, u, d => if m < l then 0 else (if 0 < u then rs k l n (m + 1) (u - 1) d else 0) + (if 0 < d then rs k l n (m - k) u (d - 1) else 0)
theorem rs_low {k l : Int} {n : Nat} {m : Int} {u d : Nat} (h : m < l) : rs k l n m u d = 0 := by
  cases n <;> (rw [rs, if_pos h])
theorem rs_zero {k l m : Int} {u d : Nat} (h : ¬ m < l) : rs k l 0 m u d = 1 := by rw [rs, if_neg h]
theorem rs_step {k l : Int} {n : Nat} {m : Int} {u d : Nat} (h : ¬ m < l) : rs k l (n + 1) m u d = (if 0 < u then rs k l n (m + 1) (u - 1) d else 0) + (if 0 < d then rs k l n (m - k) u (d - 1) else 0) := by
  rw [rs, if_neg h]
theorem rs_shift (k l c : Int) : ∀ (n : Nat) (m : Int) (u d : Nat), rs k (l + c) n (m + c) u d = rs k l n m u d
  | 0, m, u, d => by
    by_cases h : m < l
    · rw [rs_low h, rs_low (by omega)]
    · rw [rs_zero h, rs_zero (by omega)]
  | n + 1, m, u, d => by
    by_cases h : m < l
    · rw [rs_low h, rs_low (by omega)]
    · rw [rs_step h, rs_step (by omega)]
      have h1 := rs_shift k l c n (m + 1) (u - 1) d
      have h2 := rs_shift k l c n (m - k) u (d - 1)
      rw [show m + c + 1 = m + 1 + c by omega, show m + c - k = m - k + c by omega, h1, h2]
/-- the last step -/
theorem rs_last (k l : Int) : ∀ (n : Nat) (m : Int) (u d : Nat), n + 1 = u + d →
    rs k l (n + 1) m u d = if m + u - k * d < l then 0 else (if 0 < u then rs k l n m (u - 1) d else 0) + (if 0 < d then rs k l n m u (d - 1) else 0)
  | 0, m, u, d, h => by
    by_cases hm : m < l
    · rw [rs_low hm, rs_low hm, rs_low hm]; simp
    · rw [rs_step hm, rs_zero hm, rs_zero hm]
      by_cases hu : 0 < u
      · obtain rfl : u = 1 := by omega
        obtain rfl : d = 0 := by omega
        by_cases h1 : m + 1 < l
        · rw [rs_low h1]; simp [h1]
        · rw [rs_zero h1]; simp [h1]
      · obtain rfl : u = 0 := by omega
        obtain rfl : d = 1 := by omega
        by_cases h1 : m - k < l
        · rw [rs_low h1]; simp [h1]
        · rw [rs_zero h1]; simp [h1]
  | n + 1, m, u, d, h => by
    by_cases hm : m < l
    · rw [rs_low hm, rs_low hm, rs_low hm]; simp
    · rw [rs_step hm]
      have ihu := fun hu : 0 < u => rs_last k l n (m + 1) (u - 1) d (by omega)
      have ihd := fun hd : 0 < d => rs_last k l n (m - k) u (d - 1) (by omega)
      have cu : 0 < u → m + 1 + ((u - 1 : Nat) : Int) - k * d = m + u - k * d := fun hu => by omega
      have cd : 0 < d → m - k + (u : Int) - k * ((d - 1 : Nat) : Int) = m + u - k * d := fun hd => by
        obtain ⟨e, rfl⟩ : ∃ e, d = e + 1 := ⟨d - 1, by omega⟩
        simp [Int.mul_add]; omega
      have s1 : 0 < u → rs k l (n + 1) m (u - 1) d = (if 0 < u - 1 then rs k l n (m + 1) (u - 1 - 1) d else 0) + (if 0 < d then rs k l n (m - k) (u - 1) (d - 1) else 0) := fun _ => rs_step hm
      have s2 : 0 < d → rs k l (n + 1) m u (d - 1) = (if 0 < u then rs k l n (m + 1) (u - 1) (d - 1) else 0) + (if 0 < d - 1 then rs k l n (m - k) u (d - 1 - 1) else 0) := fun _ => rs_step hm
      by_cases hu : 0 < u
      · by_cases hd : 0 < d
        · rw [if_pos hu, if_pos hd, if_pos hu, if_pos hd, ihu hu, ihd hd, cu hu, cd hd, s1 hu, s2 hd, if_pos hu, if_pos hd, if_pos hu, if_pos hd]
          by_cases hc : m + (u : Int) - k * (d : Int) < l
          · simp [hc]
          · simp only [if_neg hc]; omega
        · rw [if_pos hu, if_neg hd, if_pos hu, if_neg hd, ihu hu, cu hu, s1 hu, if_neg hd, if_neg hd]
          by_cases hc : m + (u : Int) - k * (d : Int) < l
          · simp [hc]
          · simp only [if_neg hc, Nat.add_zero]
      · have hd : 0 < d := by omega
        rw [if_neg hu, if_pos hd, if_neg hu, if_pos hd, ihd hd, cd hd, s2 hd, if_neg hu, if_neg hu]
        by_cases hc : m + (u : Int) - k * (d : Int) < l
        · simp [hc]
        · simp only [if_neg hc, Nat.zero_add]
theorem rs_end {k l m : Int} {n u d : Nat} (hn : n = u + d) (hl : m + u - k * d < l) : rs k l n m u d = 0 := by
  cases n with
  | zero =>
    obtain rfl : u = 0 := by omega
    obtain rfl : d = 0 := by omega
    exact rs_low (by simpa using hl)
  | succ n => rw [rs_last k l n m u d hn, if_pos hl]
theorem chs_two (a b : Nat) : (a + 1) * chs (a + b + 1) (a + 1) = (b + 1) * chs (a + b + 1) a := by
  have h1 := chs_absorb (a + b) a
  have h2 := chs_absorb (a + b) b
  have e1 : chs (a + b + 1) a = chs (a + b + 1) (b + 1) := by
    have := chs_symm a (b + 1)
    rw [show a + (b + 1) = a + b + 1 by omega] at this
    exact this
  have e2 : chs (a + b) a = chs (a + b) b := chs_symm a b
  rw [h1, e1, h2, e2]
/-- the ballots' formula -/
theorem rs_form (k : Nat) : ∀ (n a b : Nat), n = a + b → (a : Int) + 1 ≥ (k : Int) * b → ((a : Int) + 1) * (rs k 0 n 0 a b : Nat) = (chs n a : Nat) * ((a : Int) + 1 - k * b)
  | 0, a, b, h, _ => by
    obtain rfl : a = 0 := by omega
    obtain rfl : b = 0 := by omega
    rw [rs_zero (by omega)]; simp [chs_zero]
  | n + 1, a, b, h, hk => by
    by_cases hc : (a : Int) + 1 = k * b
    · rw [rs_end (by omega) (by omega), ← hc]; simp
    · rw [rs_last k 0 n 0 a b h, if_neg (by omega)]
      by_cases hb : 0 < b
      · obtain ⟨e, rfl⟩ : ∃ e, b = e + 1 := ⟨b - 1, by omega⟩
        have hk2 : (a : Int) + 1 ≥ (k : Int) * (e : Nat) := by
          have : (k : Int) * ((e + 1 : Nat) : Int) = k * (e : Int) + k := by simp [Int.mul_add]
          omega
        have ih2 := rs_form k n a e (by omega) hk2
        rw [if_pos hb, show e + 1 - 1 = e by omega]
        by_cases ha : 0 < a
        · obtain ⟨c, rfl⟩ : ∃ c, a = c + 1 := ⟨a - 1, by omega⟩
          have ih1 := rs_form k n c (e + 1) (by omega) (by omega)
          rw [if_pos ha, show c + 1 - 1 = c by omega]
          have hn : n = c + e + 1 := by omega
          have ht := chs_two c e
          rw [← hn] at ht
          rw [chs_succ]
          generalize rs (k : Int) 0 n 0 c (e + 1) = x at *
          generalize rs (k : Int) 0 n 0 (c + 1) e = y at *
          generalize chs n c = p at *
          generalize chs n (c + 1) = q at *
          have ht' : ((c : Int) + 1) * q = ((e : Int) + 1) * p := by exact_mod_cast ht
          simp only [Int.natCast_add, Int.natCast_one] at *
          have hpos : ((c : Int) + 1) ≠ 0 := by omega
          apply Int.eq_of_mul_eq_mul_left hpos
          have g1 : ((c : Int) + 1) * (((c : Int) + 1 + 1) * ((x : Int) + y)) = ((c : Int) + 1 + 1) * (((c : Int) + 1) * x) + ((c : Int) + 1) * (((c : Int) + 1 + 1) * y) := by
            rw [Int.mul_add, Int.mul_add]
            congr 1
            rw [← Int.mul_assoc, ← Int.mul_assoc, Int.mul_comm ((c : Int) + 1) ((c : Int) + 1 + 1)]
          rw [g1, ih1, ih2]
          have g2 : ((c : Int) + 1) * ((q : Int) * ((c : Int) + 1 + 1 - k * e)) = (((c : Int) + 1) * q) * ((c : Int) + 1 + 1 - k * e) := by rw [Int.mul_assoc]
          have g3 : ((c : Int) + 1) * (((p : Int) + q) * ((c : Int) + 1 + 1 - k * ((e : Int) + 1))) = ((c : Int) + 1) * p * ((c : Int) + 1 + 1 - k * ((e : Int) + 1)) + (((c : Int) + 1) * q) * ((c : Int) + 1 + 1 - k * ((e : Int) + 1)) := by
            rw [Int.add_mul (p : Int) q, Int.mul_add, ← Int.mul_assoc, ← Int.mul_assoc]
          rw [g2, g3, ht']
          grind
        · obtain rfl : a = 0 := by omega
          rw [if_neg ha]
          have hk0 : (k : Int) * ((e + 1 : Nat) : Int) ≤ 0 := by omega
          have hk1 : k = 0 := by
            rcases Nat.eq_zero_or_pos k with h0 | h0
            · exact h0
            · exfalso
              have : 0 < (k : Int) * ((e + 1 : Nat) : Int) := Int.mul_pos (by omega) (by omega)
              omega
          subst hk1
          rw [chs_zero] at ih2 ⊢
          simpa using ih2
      · obtain rfl : b = 0 := by omega
        have ha : 0 < a := by omega
        obtain ⟨c, rfl⟩ : ∃ c, a = c + 1 := ⟨a - 1, by omega⟩
        have ih1 := rs_form k n c 0 (by omega) (by simp; omega)
        rw [if_pos ha, if_neg hb, show c + 1 - 1 = c by omega]
        have hn : n = c := by omega
        subst hn
        rw [chs_self] at ih1 ⊢
        have : rs (k : Int) 0 n 0 n 0 = 1 := by
          have h1 : ((n : Int) + 1) * (rs (k : Int) 0 n 0 n 0 : Nat) = ((n : Int) + 1) * 1 := by rw [ih1]; simp
          have := Int.eq_of_mul_eq_mul_left (by omega) h1
          omega
        rw [this]; simp
/-- all ways from the beginning: nothing is asked there -/
def rsR (k l : Int) : Nat → Nat → Nat → Nat
  | 0, _, _ => 1
  | n + 1, u, d => (if 0 < u then rs k l n 1 (u - 1) d else 0) + (if 0 < d then rs k l n (-k) u (d - 1) else 0)
theorem rsR_zero (k : Int) (n u d : Nat) : rsR k 0 n u d = rs k 0 n 0 u d := by
  cases n with
  | zero => rw [rs_zero (by omega)]; rfl
  | succ n => rw [rs_step (by omega), rsR]; simp
theorem never_form (k a b : Nat) : neverN ((chs (a + b) a : Nat) : Int) a b k = (rsR k 0 (a + b) a b : Nat) := by
  rw [rsR_zero]
  unfold neverN
  by_cases h : (a : Int) < k * b
  · rw [if_pos h, rs_end rfl (by omega)]; rfl
  · rw [if_neg h, ← rs_form k (a + b) a b rfl (by omega), Int.mul_ediv_cancel_left _ (by omega)]
theorem ahead_form (k a b : Nat) (hk : 1 ≤ k) : aheadN ((chs (a + b) a : Nat) : Int) a b k = (rsR k 1 (a + b) a b : Nat) := by
  unfold aheadN
  by_cases h : (a : Int) < k * b
  · rw [if_pos h]
    cases e : a + b with
    | zero =>
      exfalso
      have ha : a = 0 := by omega
      have hb : b = 0 := by omega
      rw [ha, hb] at h
      simp at h
    | succ n =>
      rw [rsR, rs_low (m := -(k : Int)) (by omega)]
      by_cases ha : 0 < a
      · rw [if_pos ha, rs_end (by omega) (by omega)]; simp
      · rw [if_neg ha]; simp
  · rw [if_neg h]
    by_cases h0 : (a : Int) + b = 0
    · rw [if_pos h0]
      obtain rfl : a = 0 := by omega
      obtain rfl : b = 0 := by omega
      rfl
    · rw [if_neg h0]
      have ha : 0 < a := by
        rcases Nat.eq_zero_or_pos a with h1 | h1
        · exfalso
          subst h1
          have : 0 < (k : Int) * (b : Int) := Int.mul_pos (by omega) (by omega)
          omega
        · exact h1
      obtain ⟨c, rfl⟩ : ∃ c, a = c + 1 := ⟨a - 1, by omega⟩
      rw [show c + 1 + b = (c + b) + 1 by omega, rsR, rs_low (m := -(k : Int)) (by omega), if_pos ha]
      have hs := rs_shift k 0 1 (c + b) 0 c b
      simp only [Int.zero_add] at hs
      rw [show c + 1 - 1 = c by omega, hs]
      have hf := rs_form k (c + b) c b rfl (by omega)
      have hab := chs_absorb (c + b) c
      generalize rs (k : Int) 0 (c + b) 0 c b = x at *
      generalize chs (c + b) c = p at *
      generalize chs (c + b + 1) (c + 1) = q at *
      have hab' : ((c : Int) + 1) * q = ((c : Int) + b + 1) * p := by exact_mod_cast hab
      have key : (q : Int) * (((c + 1 : Nat) : Int) - k * b) = (((c + 1 : Nat) : Int) + b) * x := by
        apply Int.eq_of_mul_eq_mul_left (show ((c : Int) + 1) ≠ 0 by omega)
        rw [← Int.mul_assoc, hab', Int.natCast_add, Int.natCast_one]
        rw [show ((c : Int) + 1) * (((c : Int) + 1 + b) * x) = ((c : Int) + 1 + b) * (((c : Int) + 1) * x) from by rw [← Int.mul_assoc, ← Int.mul_assoc, Int.mul_comm ((c : Int) + 1)], hf]
        rw [show (c : Int) + b + 1 = (c : Int) + 1 + b by omega, Int.mul_assoc]
      rw [key, Int.mul_ediv_cancel_left _ (by omega)]
      by_cases hb : 0 < b
      · rw [if_pos hb]; rfl
      · rw [if_neg hb]; rfl
end Go.Proofs.Ytlgiamgjimffnaa
