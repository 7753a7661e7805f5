/- Pack 12 of what FnExactVotesOfTable needs: WayMath, ResMath. -/
import Derived.Test.YtmfcknlpbliehaaDoorKFnExactVotesOfTable11
/- Ways on from a standing to a result: plain numbers. -/
namespace Go.Proofs.YtmfcknlpbliehaaDoor
set_option linter.unusedVariables false
/-- in how many ways n votes that overtake nowhere lead from p q r s to a b c d -/
def wy (a b c d : Nat) : Nat → Nat → Nat → Nat → Nat → Nat
  | 0, p, q, r, s => if p = a ∧ q = b ∧ r = c ∧ s = d then 1 else 0
  | n + 1, p, q, r, s => wy a b c d n (p + 1) q r s + (if q < p then wy a b c d n p (q + 1) r s else 0) + (if r < q then wy a b c d n p q (r + 1) s else 0) + (if s < r then wy a b c d n p q r (s + 1) else 0)
theorem wy_big {a b c d : Nat} : ∀ (n p q r s : Nat), (a < p ∨ b < q ∨ c < r ∨ d < s) → wy a b c d n p q r s = 0
  | 0, p, q, r, s, h => by rw [wy, if_neg (by omega)]
  | n + 1, p, q, r, s, h => by
    rw [wy, wy_big n (p + 1) q r s (by omega), wy_big n p (q + 1) r s (by omega), wy_big n p q (r + 1) s (by omega), wy_big n p q r (s + 1) (by omega)]
    simp
theorem wy_le {a b c d : Nat} : ∀ (n p q r s : Nat), wy a b c d n p q r s ≤ 4 ^ n
  | 0, p, q, r, s => by rw [wy]; split <;> simp
  | n + 1, p, q, r, s => by
    have h1 := wy_le (a := a) (b := b) (c := c) (d := d) n (p + 1) q r s
    have h2 := wy_le (a := a) (b := b) (c := c) (d := d) n p (q + 1) r s
    have h3 := wy_le (a := a) (b := b) (c := c) (d := d) n p q (r + 1) s
    have h4 := wy_le (a := a) (b := b) (c := c) (d := d) n p q r (s + 1)
    rw [wy, Nat.pow_succ]
    generalize 4 ^ n = z at *
    split <;> split <;> split <;> omega
theorem if_iff {p q : Prop} [Decidable p] [Decidable q] {x y : Nat} (h : p ↔ q) : (if p then x else y) = if q then x else y := by
  by_cases hp : p
  · rw [if_pos hp, if_pos (h.1 hp)]
  · rw [if_neg hp, if_neg (fun hq => hp (h.2 hq))]
theorem if_if {p q : Prop} [Decidable p] [Decidable q] : (if p then (if q then 1 else 0) else 0) = if p ∧ q then 1 else 0 := by
  by_cases hp : p <;> by_cases hq : q <;> simp [hp, hq]
theorem wy_one {a b c d : Nat} (p q r s : Nat) (h1 : b ≤ a) (h2 : c ≤ b) (h3 : d ≤ c) (g1 : q ≤ p) (g2 : r ≤ q) (g3 : s ≤ r) :
    wy a b c d 1 p q r s = (if b < a then wy (a - 1) b c d 0 p q r s else 0) + (if c < b then wy a (b - 1) c d 0 p q r s else 0) + (if d < c then wy a b (c - 1) d 0 p q r s else 0) + (if 0 < d then wy a b c (d - 1) 0 p q r s else 0) := by
  simp only [wy, if_if]
  congr 1
  · congr 1
    · congr 1
      · exact if_iff (by omega)
      · exact if_iff (by omega)
    · exact if_iff (by omega)
  · exact if_iff (by omega)
theorem wy_back (n : Nat) : ∀ {a b c d : Nat} (p q r s : Nat) (h1 : b ≤ a) (h2 : c ≤ b) (h3 : d ≤ c) (g1 : q ≤ p) (g2 : r ≤ q) (g3 : s ≤ r),
    wy a b c d (n + 1) p q r s = (if b < a then wy (a - 1) b c d n p q r s else 0) + (if c < b then wy a (b - 1) c d n p q r s else 0) + (if d < c then wy a b (c - 1) d n p q r s else 0) + (if 0 < d then wy a b c (d - 1) n p q r s else 0) := by
  induction n with
  | zero => intro a b c d p q r s h1 h2 h3 g1 g2 g3; exact wy_one p q r s h1 h2 h3 g1 g2 g3
  | succ n ih =>
    intro a b c d p q r s h1 h2 h3 g1 g2 g3
    rw [wy, ih (p + 1) q r s h1 h2 h3 (by omega) g2 g3]
    have k1 : (if q < p then wy a b c d (n + 1) p (q + 1) r s else 0) = if q < p then ((if b < a then wy (a - 1) b c d n p (q + 1) r s else 0) + (if c < b then wy a (b - 1) c d n p (q + 1) r s else 0) + (if d < c then wy a b (c - 1) d n p (q + 1) r s else 0) + (if 0 < d then wy a b c (d - 1) n p (q + 1) r s else 0)) else 0 := by
      by_cases h : q < p
      · rw [if_pos h, if_pos h, ih p (q + 1) r s h1 h2 h3 (by omega) (by omega) g3]
      · rw [if_neg h, if_neg h]
    have k2 : (if r < q then wy a b c d (n + 1) p q (r + 1) s else 0) = if r < q then ((if b < a then wy (a - 1) b c d n p q (r + 1) s else 0) + (if c < b then wy a (b - 1) c d n p q (r + 1) s else 0) + (if d < c then wy a b (c - 1) d n p q (r + 1) s else 0) + (if 0 < d then wy a b c (d - 1) n p q (r + 1) s else 0)) else 0 := by
      by_cases h : r < q
      · rw [if_pos h, if_pos h, ih p q (r + 1) s h1 h2 h3 g1 (by omega) (by omega)]
      · rw [if_neg h, if_neg h]
    have k3 : (if s < r then wy a b c d (n + 1) p q r (s + 1) else 0) = if s < r then ((if b < a then wy (a - 1) b c d n p q r (s + 1) else 0) + (if c < b then wy a (b - 1) c d n p q r (s + 1) else 0) + (if d < c then wy a b (c - 1) d n p q r (s + 1) else 0) + (if 0 < d then wy a b c (d - 1) n p q r (s + 1) else 0)) else 0 := by
      by_cases h : s < r
      · rw [if_pos h, if_pos h, ih p q r (s + 1) h1 h2 h3 g1 g2 (by omega)]
      · rw [if_neg h, if_neg h]
    rw [k1, k2, k3]
    clear k1 k2 k3 ih
    simp only [wy]
    generalize wy (a - 1) b c d n (p + 1) q r s = x00
    generalize wy (a - 1) b c d n p (q + 1) r s = x01
    generalize wy (a - 1) b c d n p q (r + 1) s = x02
    generalize wy (a - 1) b c d n p q r (s + 1) = x03
    generalize wy a (b - 1) c d n (p + 1) q r s = x10
    generalize wy a (b - 1) c d n p (q + 1) r s = x11
    generalize wy a (b - 1) c d n p q (r + 1) s = x12
    generalize wy a (b - 1) c d n p q r (s + 1) = x13
    generalize wy a b (c - 1) d n (p + 1) q r s = x20
    generalize wy a b (c - 1) d n p (q + 1) r s = x21
    generalize wy a b (c - 1) d n p q (r + 1) s = x22
    generalize wy a b (c - 1) d n p q r (s + 1) = x23
    generalize wy a b c (d - 1) n (p + 1) q r s = x30
    generalize wy a b c (d - 1) n p (q + 1) r s = x31
    generalize wy a b c (d - 1) n p q (r + 1) s = x32
    generalize wy a b c (d - 1) n p q r (s + 1) = x33
    by_cases c1 : b < a <;> by_cases c2 : c < b <;> by_cases c3 : d < c <;> by_cases c4 : 0 < d <;> by_cases e1 : q < p <;> by_cases e2 : r < q <;> by_cases e3 : s < r <;> simp only [c1, c2, c3, c4, e1, e2, e3, if_true, if_false] <;> omega
end Go.Proofs.YtmfcknlpbliehaaDoor

/- Results, their hooks, and how many ordered votes they have: plain numbers. -/
namespace Go.Proofs.YtmfcknlpbliehaaDoor
open Go.RowKit
set_option linter.unusedVariables false
def flTo (xs : List Int) : Nat → Bool
  | 0 => true
  | 1 => true
  | k + 2 => flTo xs (k + 1) && decide (xs.getD (k + 1) 0 ≤ xs.getD k 0)
def resB (xs : List Int) : Bool := decide (xs.length = 4) && (allB xs 0 16 && (flTo xs 4 && decide (xs.sum ≤ 16)))
theorem resB_iff (xs : List Int) : resB xs = true ↔ ∃ a b c d : Nat, xs = [(a : Int), (b : Int), (c : Int), (d : Int)] ∧ b ≤ a ∧ c ≤ b ∧ d ≤ c ∧ a + b + c + d ≤ 16 := by
  constructor
  · intro h
    unfold resB at h
    rw [Bool.and_eq_true, decide_eq_true_iff] at h
    obtain ⟨h4, h⟩ := h
    match xs, h4 with
    | [a, b, c, d], _ =>
      simp [allB, inBd, flTo] at h
      obtain ⟨⟨⟨a0, _⟩, ⟨b0, _⟩, ⟨c0, _⟩, d0, _⟩, ⟨⟨e1, e2⟩, e3⟩, hs⟩ := h
      refine ⟨a.toNat, b.toNat, c.toNat, d.toNat, ?_, by omega, by omega, by omega, by omega⟩
      rw [Int.toNat_of_nonneg a0, Int.toNat_of_nonneg b0, Int.toNat_of_nonneg c0, Int.toNat_of_nonneg d0]
  · rintro ⟨a, b, c, d, rfl, h1, h2, h3, h4⟩
    simp [resB, allB, inBd, flTo]
    omega
/-- how many of a list are greater than j -/
def laN (j : Int) : List Int → Nat
  | [] => 0
  | x :: l => (if j < x then 1 else 0) + laN j l
theorem laN_app (j : Int) : ∀ (l r : List Int), laN j (l ++ r) = laN j l + laN j r
  | [], r => by simp [laN]
  | x :: l, r => by rw [List.cons_append, laN, laN, laN_app j l r, Nat.add_assoc]
theorem laN_le (j : Int) : ∀ (l : List Int), laN j l ≤ l.length
  | [] => Nat.le_refl _
  | x :: l => by
    have := laN_le j l
    rw [laN, List.length_cons]; split <;> omega
theorem laN_take (j : Int) (l : List Int) (k : Nat) (h : k < l.length) : laN j (l.take (k + 1)) = laN j (l.take k) + if j < l.getD k 0 then 1 else 0 := by
  rw [List.take_succ_eq_append_getElem h, laN_app, List.getD_eq_getElem?_getD, List.getElem?_eq_getElem h]
  rfl
/-- the hook of place j of candidate i -/
def hkN (xs : List Int) (i : Nat) (j : Int) : Int := xs.getD i 0 - j + laN j (xs.drop (i + 1))
def hkRow (xs : List Int) (i : Nat) : Nat → List Int
  | 0 => []
  | m + 1 => hkRow xs i m ++ [hkN xs i (m : Int)]
def hksTo (xs : List Int) : Nat → List (List Int)
  | 0 => []
  | k + 1 => hksTo xs k ++ [hkRow xs k (xs.getD k 0).toNat]
theorem hkRow_len (xs : List Int) (i : Nat) : ∀ m, (hkRow xs i m).length = m
  | 0 => rfl
  | m + 1 => by rw [hkRow, List.length_append, hkRow_len xs i m]; rfl
theorem hksTo_len (xs : List Int) : ∀ k, (hksTo xs k).length = k
  | 0 => rfl
  | k + 1 => by rw [hksTo, List.length_append, hksTo_len xs k]; rfl
def pd (l : List Int) : Int := l.foldl (fun x y => x * y) 1
theorem pd_nil : pd [] = 1 := rfl
theorem pd_snoc (l : List Int) (x : Int) : pd (l ++ [x]) = pd l * x := by unfold pd; rw [List.foldl_append]; rfl
def fac : Nat → Int
  | 0 => 1
  | n + 1 => fac n * (n + 1 : Nat)
def hkL (xs : List Int) : List Int := (hksTo xs 4).flatten
def coV (xs : List Int) : Int := (fac (hkL xs).length).tdiv (pd (hkL xs))
def q4 (a b c d : Nat) : List Int := [(a : Int), (b : Int), (c : Int), (d : Int)]
def hN (a b c d : Nat) : Nat := (coV (q4 a b c d)).toNat
def resP (a b c d : Nat) : Bool :=
  decide ((hkL (q4 a b c d)).length = a + b + c + d) && (hkL (q4 a b c d)).all (fun x => decide (1 ≤ x)) && decide (pd (hkL (q4 a b c d)) ≤ 100000000000000) && decide (coV (q4 a b c d) = ((hN a b c d : Nat) : Int)) &&
  decide (hN a b c d = if a + b + c + d = 0 then 1 else (if b < a then hN (a - 1) b c d else 0) + (if c < b then hN a (b - 1) c d else 0) + (if d < c then hN a b (c - 1) d else 0) + (if 0 < d then hN a b c (d - 1) else 0))
theorem resP_tab : ((List.range 17).all fun a => (List.range (a + 1)).all fun b => (List.range (b + 1)).all fun c => (List.range (c + 1)).all fun d => if a + b + c + d ≤ 16 then resP a b c d else true) = true := by decide +kernel
theorem resP_all {a b c d : Nat} (h1 : b ≤ a) (h2 : c ≤ b) (h3 : d ≤ c) (h : a + b + c + d ≤ 16) : resP a b c d = true := by
  have t := resP_tab
  rw [List.all_eq_true] at t
  have t := t a (List.mem_range.2 (by omega))
  rw [List.all_eq_true] at t
  have t := t b (List.mem_range.2 (by omega))
  rw [List.all_eq_true] at t
  have t := t c (List.mem_range.2 (by omega))
  rw [List.all_eq_true] at t
  have t := t d (List.mem_range.2 (by omega))
  rwa [if_pos h] at t
theorem resP_of {a b c d : Nat} (h1 : b ≤ a) (h2 : c ≤ b) (h3 : d ≤ c) (h : a + b + c + d ≤ 16) :
    (hkL (q4 a b c d)).length = a + b + c + d ∧ (∀ x, x ∈ hkL (q4 a b c d) → 1 ≤ x) ∧ pd (hkL (q4 a b c d)) ≤ 100000000000000 ∧ coV (q4 a b c d) = ((hN a b c d : Nat) : Int) ∧
    hN a b c d = if a + b + c + d = 0 then 1 else (if b < a then hN (a - 1) b c d else 0) + (if c < b then hN a (b - 1) c d else 0) + (if d < c then hN a b (c - 1) d else 0) + (if 0 < d then hN a b c (d - 1) else 0) := by
  have t := resP_all h1 h2 h3 h
  unfold resP at t
  simp only [Bool.and_eq_true, decide_eq_true_iff, List.all_eq_true] at t
  exact ⟨t.1.1.1.1, t.1.1.1.2, t.1.1.2, t.1.2, t.2⟩
theorem wy_eq0 : wy 0 0 0 0 0 0 0 0 0 = 1 := rfl
theorem hook_wy : ∀ (n : Nat) {a b c d : Nat} (h1 : b ≤ a) (h2 : c ≤ b) (h3 : d ≤ c) (h : a + b + c + d ≤ 16), a + b + c + d = n → hN a b c d = wy a b c d n 0 0 0 0
  | 0, a, b, c, d, h1, h2, h3, h, e => by
    obtain ⟨rfl, rfl, rfl, rfl⟩ : a = 0 ∧ b = 0 ∧ c = 0 ∧ d = 0 := by omega
    rw [(resP_of h1 h2 h3 h).2.2.2.2]
    rfl
  | n + 1, a, b, c, d, h1, h2, h3, h, e => by
    rw [(resP_of h1 h2 h3 h).2.2.2.2, if_neg (by omega), wy_back n 0 0 0 0 h1 h2 h3 (Nat.le_refl _) (Nat.le_refl _) (Nat.le_refl _)]
    congr 1
    · congr 1
      · congr 1
        · by_cases k : b < a
          · rw [if_pos k, if_pos k, hook_wy n (by omega) h2 h3 (by omega) (by omega)]
          · rw [if_neg k, if_neg k]
        · by_cases k : c < b
          · rw [if_pos k, if_pos k, hook_wy n (by omega) (by omega) h3 (by omega) (by omega)]
          · rw [if_neg k, if_neg k]
      · by_cases k : d < c
        · rw [if_pos k, if_pos k, hook_wy n h1 (by omega) (by omega) (by omega) (by omega)]
        · rw [if_neg k, if_neg k]
    · by_cases k : 0 < d
      · rw [if_pos k, if_pos k, hook_wy n h1 h2 (by omega) (by omega) (by omega)]
      · rw [if_neg k, if_neg k]
theorem pd_pos : ∀ (l : List Int) (z : Int), 1 ≤ z → (∀ x, x ∈ l → 1 ≤ x) → z ≤ l.foldl (fun x y => x * y) z
  | [], z, hz, _ => Int.le_refl _
  | x :: l, z, hz, h => by
    have hx := h x (by simp)
    have h1 : z * 1 ≤ z * x := Int.mul_le_mul_of_nonneg_left hx (by omega)
    rw [Int.mul_one] at h1
    have := pd_pos l (z * x) (by omega) (fun y hy => h y (by simp [hy]))
    rw [List.foldl_cons]
    omega
theorem pd_pre {l r : List Int} (h : ∀ x, x ∈ l ++ r → 1 ≤ x) : 1 ≤ pd l ∧ pd l ≤ pd (l ++ r) := by
  have h1 := pd_pos l 1 (Int.le_refl _) (fun x hx => h x (by simp [hx]))
  refine ⟨h1, ?_⟩
  unfold pd
  rw [List.foldl_append]
  exact pd_pos r _ h1 (fun x hx => h x (by simp [hx]))
theorem fac_bd : ∀ n, n ≤ 16 → 1 ≤ fac n ∧ fac n ≤ 20922789888000 := by decide
end Go.Proofs.YtmfcknlpbliehaaDoor
