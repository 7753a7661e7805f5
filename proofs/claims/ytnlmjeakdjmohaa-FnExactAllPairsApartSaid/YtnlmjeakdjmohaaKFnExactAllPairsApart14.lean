/- Pack 14 of what FnExactAllPairsApart needs: SpMath, ChMath. -/
import Derived.Test.YtnlmjeakdjmohaaKFnExactAllPairsApart13
/- Texts of ways that keep off taken cells, in order. -/
namespace Go.Proofs.Ytnlmjeakdjmohaa
open Go.RowKit
set_option linter.unusedVariables false
/-- the steps of all ways from x, y to u, v that keep off taken cells, in order -/
def spF (tk : Int → Int → Bool) (u v : Int) : Nat → Int → Int → List (List UInt8)
  | 0, _, _ => []
  | f + 1, x, y => if u < x ∨ v < y ∨ tk x y = true then [] else if x = u ∧ y = v then [[]] else (spF tk u v f (x + 1) y).map (List.cons 69) ++ (spF tk u v f x (y + 1)).map (List.cons 78)
/-- the cells of such a way -/
def pcs : Int → Int → List UInt8 → List (Int × Int)
  | x, y, [] => [(x, y)]
  | x, y, c :: p => (x, y) :: (if c = 69 then pcs (x + 1) y p else pcs x (y + 1) p)
theorem spF_no {tk : Int → Int → Bool} {u v x y : Int} {f : Nat} (h : u < x ∨ v < y ∨ tk x y = true) : spF tk u v f x y = [] := by
  cases f with
  | zero => rfl
  | succ f => rw [spF, if_pos h]
theorem spF_end {tk : Int → Int → Bool} {u v : Int} {f : Nat} (h : tk u v = false) : spF tk u v (f + 1) u v = [[]] := by
  rw [spF, if_neg (by rw [h]; simp), if_pos ⟨rfl, rfl⟩]
theorem spF_step {tk : Int → Int → Bool} {u v x y : Int} {f : Nat} (h : ¬ (u < x ∨ v < y ∨ tk x y = true)) (h2 : ¬ (x = u ∧ y = v)) : spF tk u v (f + 1) x y = (spF tk u v f (x + 1) y).map (List.cons 69) ++ (spF tk u v f x (y + 1)).map (List.cons 78) := by
  rw [spF, if_neg h, if_neg h2]
/-- what a way of the list is -/
theorem spF_mem {tk : Int → Int → Bool} {u v : Int} : ∀ (f : Nat) (x y : Int) (p : List UInt8), p ∈ spF tk u v f x y → x ≤ u ∧ y ≤ v ∧ (p.length : Int) = (u - x) + (v - y) ∧ ∀ c ∈ p, c = 69 ∨ c = 78
  | 0, x, y, p, h => by cases h
  | f + 1, x, y, p, h => by
    rw [spF] at h
    split at h
    · cases h
    · next h0 =>
      split at h
      · next h1 =>
        rw [List.mem_singleton] at h
        subst h
        obtain ⟨rfl, rfl⟩ := h1
        exact ⟨by omega, by omega, by simp, fun c hc => by cases hc⟩
      · rw [List.mem_append] at h
        rcases h with h | h
        · rw [List.mem_map] at h
          obtain ⟨q, hq, rfl⟩ := h
          obtain ⟨h1, h2, h3, h4⟩ := spF_mem f _ _ q hq
          refine ⟨by omega, by omega, by rw [List.length_cons]; omega, fun c hc => ?_⟩
          rcases List.mem_cons.1 hc with rfl | hc
          · exact .inl rfl
          · exact h4 c hc
        · rw [List.mem_map] at h
          obtain ⟨q, hq, rfl⟩ := h
          obtain ⟨h1, h2, h3, h4⟩ := spF_mem f _ _ q hq
          refine ⟨by omega, by omega, by rw [List.length_cons]; omega, fun c hc => ?_⟩
          rcases List.mem_cons.1 hc with rfl | hc
          · exact .inr rfl
          · exact h4 c hc
/-- more taken cells: those ways go -/
theorem spF_filter (tk t2 : Int → Int → Bool) (u v : Int) : ∀ (f : Nat) (x y : Int),
    spF (fun a b => tk a b || t2 a b) u v f x y = (spF tk u v f x y).filter fun p => (pcs x y p).all fun c => !t2 c.1 c.2
  | 0, x, y => rfl
  | f + 1, x, y => by
    by_cases h : u < x ∨ v < y ∨ tk x y = true
    · rw [spF_no h, spF_no (by rcases h with h | h | h <;> simp [h])]
      rfl
    · cases ht : t2 x y with
      | true =>
        rw [spF_no (tk := fun a b => tk a b || t2 a b) (by simp [ht])]
        symm
        rw [List.filter_eq_nil_iff]
        intro p hp
        cases p with
        | nil => simp [pcs, ht]
        | cons c p => simp [pcs, ht]
      | false =>
        have h' : ¬ (u < x ∨ v < y ∨ (tk x y || t2 x y) = true) := by rw [ht, Bool.or_false]; exact h
        by_cases h2 : x = u ∧ y = v
        · obtain ⟨rfl, rfl⟩ := h2
          have htk : tk x y = false := by
            rcases hh : tk x y with _ | _
            · rfl
            · exact absurd (.inr (.inr hh)) h
          rw [spF_end htk, spF_end (by rw [htk, ht]; rfl)]
          simp [pcs, ht]
        · rw [spF_step h h2, spF_step h' h2, spF_filter tk t2 u v f, spF_filter tk t2 u v f, List.filter_append, List.filter_map, List.filter_map]
          congr 2
          · congr 1
            funext p
            simp [pcs, ht]
          · congr 1
            funext p
            simp [pcs, ht]
/-- all ways of the list come to what the first one comes to straight to the north -/
theorem spF_north {tk : Int → Int → Bool} {u v : Int} : ∀ (f : Nat) (x y y' : Int) (s : List UInt8), (spF tk u v f x y).head? = some s → (x, y') ∈ pcs x y s → ∀ p ∈ spF tk u v f x y, (x, y') ∈ pcs x y p
  | 0, x, y, y', s, h, _ => by cases h
  | f + 1, x, y, y', s, h, hm => by
    intro p hp
    by_cases hy : y' = y
    · subst hy
      cases p with
      | nil => simp [pcs]
      | cons c p => simp [pcs]
    rw [spF] at h hp
    split at h
    · cases h
    · next h0 =>
      rw [if_neg h0] at hp
      split at h
      · next h1 =>
        rw [if_pos h1] at hp
        rw [List.mem_singleton] at hp
        injection h with h
        subst h
        subst hp
        exact hm
      · next h1 =>
        rw [if_neg h1] at hp
        cases hE : spF tk u v f (x + 1) y with
        | cons a A =>
          rw [hE] at h
          simp at h
          subst h
          rw [pcs, if_pos rfl] at hm
          rcases List.mem_cons.1 hm with e | hm
          · injection e with e1 e2
            exact absurd e2 hy
          · exfalso
            have : ∀ (q : List UInt8) (a b : Int), (x, y') ∈ pcs a b q → a ≤ x := by
              intro q
              induction q with
              | nil =>
                intro a b hq
                simp [pcs] at hq
                omega
              | cons c q ih =>
                intro a b hq
                rw [pcs] at hq
                rcases List.mem_cons.1 hq with e | hq
                · injection e with e1 e2
                  omega
                · split at hq
                  · have := ih _ _ hq
                    omega
                  · exact ih _ _ hq
            have := this _ _ _ hm
            omega
        | nil =>
          rw [hE] at h hp
          rw [List.map_nil, List.nil_append] at h hp
          rw [List.head?_map] at h
          cases hN : (spF tk u v f x (y + 1)).head? with
          | none => rw [hN] at h; cases h
          | some s2 =>
            rw [hN] at h
            injection h with h
            subst h
            rw [pcs, if_neg (by decide)] at hm
            rcases List.mem_cons.1 hm with e | hm
            · injection e with e1 e2
              exact absurd e2 hy
            · rw [List.mem_map] at hp
              obtain ⟨q, hq, rfl⟩ := hp
              rw [pcs, if_neg (by decide)]
              exact List.mem_cons_of_mem _ (spF_north f x (y + 1) y' s2 hN hm q hq)
theorem pcs_ge {x' y' : Int} : ∀ (q : List UInt8) (a b : Int), (x', y') ∈ pcs a b q → a ≤ x' ∧ b ≤ y'
  | [], a, b, h => by simp [pcs] at h; omega
  | c :: q, a, b, h => by
    rw [pcs] at h
    rcases List.mem_cons.1 h with e | h
    · injection e with e1 e2
      omega
    · split at h
      · have := pcs_ge q _ _ h
        omega
      · have := pcs_ge q _ _ h
        omega
end Go.Proofs.Ytnlmjeakdjmohaa

/- Binomial numbers. -/
namespace Go.Proofs.Ytnlmjeakdjmohaa
open Go.RowKit
/-- the number of ways to choose k of n -/
def chs : Nat → Nat → Nat
  | _, 0 => 1
  | 0, _ + 1 => 0
  | n + 1, k + 1 => chs n k + chs n (k + 1)
theorem chs_zero (n : Nat) : chs n 0 = 1 := by cases n <;> rfl
theorem chs_succ (n k : Nat) : chs (n + 1) (k + 1) = chs n k + chs n (k + 1) := rfl
theorem chs_lt : ∀ (n k : Nat), n < k → chs n k = 0
  | 0, k + 1, _ => rfl
  | n + 1, k + 1, h => by rw [chs_succ, chs_lt n k (by omega), chs_lt n (k + 1) (by omega)]
theorem chs_self (n : Nat) : chs n n = 1 := by
  induction n with
  | zero => rfl
  | succ n ih => rw [chs_succ, ih, chs_lt n (n + 1) (by omega)]
theorem chs_le : ∀ (n k : Nat), chs n k ≤ 2 ^ n
  | n, 0 => by rw [chs_zero]; exact Nat.one_le_two_pow
  | 0, k + 1 => by simp [chs]
  | n + 1, k + 1 => by
    rw [chs_succ, Nat.pow_succ]
    have h1 := chs_le n k
    have h2 := chs_le n (k + 1)
    omega
theorem chs_small (n k : Nat) (h : n ≤ 60) : chs n k ≤ 1152921504606846976 := by
  have h1 := chs_le n k
  have h2 : 2 ^ n ≤ 2 ^ 60 := Nat.pow_le_pow_right (by omega) h
  omega
theorem chs_small40 (n k : Nat) (h : n ≤ 40) : chs n k ≤ 1099511627776 := by
  have h1 := chs_le n k
  have h2 : 2 ^ n ≤ 2 ^ 40 := Nat.pow_le_pow_right (by omega) h
  omega
theorem chs_pos : ∀ (n k : Nat), k ≤ n → 0 < chs n k
  | n, 0, _ => by rw [chs_zero]; omega
  | n + 1, k + 1, h => by
    rw [chs_succ]
    have := chs_pos n k (by omega)
    omega
theorem chs_absorb : ∀ (n k : Nat), (k + 1) * chs (n + 1) (k + 1) = (n + 1) * chs n k
  | 0, 0 => rfl
  | 0, k + 1 => by rw [chs_lt 1 (k + 2) (by omega), chs_lt 0 (k + 1) (by omega)]; simp
  | n + 1, 0 => by
    have h := chs_absorb n 0
    rw [chs_zero] at h ⊢
    rw [chs_succ, chs_zero]
    omega
  | n + 1, k + 1 => by
    have h1 := chs_absorb n k
    have h2 := chs_absorb n (k + 1)
    rw [chs_succ (n + 1) (k + 1)]
    have e : (k + 1 + 1) * (chs (n + 1) (k + 1) + chs (n + 1) (k + 1 + 1)) = (k + 1) * chs (n + 1) (k + 1) + chs (n + 1) (k + 1) + (k + 1 + 1) * chs (n + 1) (k + 1 + 1) := by
      rw [Nat.mul_add, Nat.succ_mul (k + 1)]
    rw [e, h1, h2]
    have e2 : (n + 1 + 1) * chs (n + 1) (k + 1) = (n + 1) * chs (n + 1) (k + 1) + chs (n + 1) (k + 1) := Nat.succ_mul _ _
    rw [e2, chs_succ n k, Nat.mul_add]
    omega
theorem chs_mul (d i : Nat) : chs (d + i) i * (d + (i + 1)) / (i + 1) = chs (d + (i + 1)) (i + 1) := by
  have h := chs_absorb (d + i) i
  have e : chs (d + i) i * (d + (i + 1)) = (i + 1) * chs (d + i + 1) (i + 1) := by rw [h, Nat.mul_comm]; rfl
  rw [e, Nat.mul_div_cancel_left _ (by omega)]
  rfl
theorem chs_symm : ∀ (a b : Nat), chs (a + b) a = chs (a + b) b
  | 0, b => by rw [chs_zero, Nat.zero_add, chs_self]
  | a + 1, 0 => by rw [chs_zero, Nat.add_zero, chs_self]
  | a + 1, b + 1 => by
    have h1 := chs_symm (a + 1) b
    have h2 := chs_symm a (b + 1)
    have e : a + 1 + (b + 1) = (a + 1 + b) + 1 := by omega
    rw [e, chs_succ, chs_succ]
    have e3 : a + 1 + b = a + (b + 1) := by omega
    rw [h1, e3, h2]
    rw [← e3]
    omega
/-- the same over integers: 0 outside -/
def chZ (n k : Int) : Int := if k < 0 ∨ n < k then 0 else (chs n.toNat k.toNat : Nat)
theorem chZ_nat (n k : Nat) : chZ n k = (chs n k : Nat) := by
  unfold chZ
  by_cases h : n < k
  · rw [if_pos (by omega), chs_lt n k h]; rfl
  · rw [if_neg (by omega)]; simp
theorem chZ_no {n k : Int} (h : k < 0 ∨ n < k) : chZ n k = 0 := by unfold chZ; rw [if_pos h]
theorem chZ_bd (n k : Int) (h : n ≤ 40) : 0 ≤ chZ n k ∧ chZ n k ≤ 1099511627776 := by
  unfold chZ
  split
  · omega
  · have := chs_small40 n.toNat k.toNat (by omega); omega
/-- how many paths: 0 where there is no such number of steps -/
def cntOk (u d : Int) : Bool := decide (0 ≤ u) && decide (0 ≤ d) && decide (u + d ≤ 40)
def cntV (u d : Int) : Int := if cntOk u d then chZ (u + d) u else 0
theorem cntV_bd (u d : Int) : 0 ≤ cntV u d ∧ cntV u d ≤ 1099511627776 := by
  unfold cntV cntOk
  split
  · rename_i h; simp at h; exact chZ_bd _ _ (by omega)
  · omega
end Go.Proofs.Ytnlmjeakdjmohaa
