/- Pack 5 of what FnExactOrderedOfRank needs: ResMath, WayM2. -/
import Derived.Test.YtmfcknlpbliehaaKFnExactOrderedOfRank4
/- Results, their hooks, and how many ordered votes they have: plain numbers. -/
namespace Go.Proofs.Ytmfcknlpbliehaa
open Go.RowKit
set_option linter.unusedVariables false
def flTo (xs : List Int) : Nat → Bool
  | 0 => true
  | 1 => true
  | k + 2 => flTo xs (k + 1) && decide (xs.getD (k + 1) 0 ≤ xs.getD k 0)
def resB (xs : List Int) : Bool := decide (xs.length = 4) && (allB xs 0 16 && (flTo xs 4 && decide (xs.sum ≤ 16)))
theorem resB_iff (xs : List Int) : resB xs = true ↔ ∃ a b c d : Nat, xs = [(a : Int), (b : Int), (c : Int), (d : Int)] ∧ b ≤ a ∧ c ≤ b ∧ d ≤ c ∧ a + b + c + d ≤ 16 := by
  constructor
  · intro h
    unfold resB at h
    rw [Bool.and_eq_true, decide_eq_true_iff] at h
    obtain ⟨h4, h⟩ := h
    match xs, h4 with
    | [a, b, c, d], _ =>
      simp [allB, inBd, flTo] at h
      obtain ⟨⟨⟨a0, _⟩, ⟨b0, _⟩, ⟨c0, _⟩, d0, _⟩, ⟨⟨e1, e2⟩, e3⟩, hs⟩ := h
      refine ⟨a.toNat, b.toNat, c.toNat, d.toNat, ?_, by omega, by omega, by omega, by omega⟩
      rw [Int.toNat_of_nonneg a0, Int.toNat_of_nonneg b0, Int.toNat_of_nonneg c0, Int.toNat_of_nonneg d0]
  · rintro ⟨a, b, c, d, rfl, h1, h2, h3, h4⟩
    simp [resB, allB, inBd, flTo]
    omega
/-- how many of a list are greater than j -/
def laN (j : Int) : List Int → Nat
  | [] => 0
  | x :: l => (if j < x then 1 else 0) + laN j l
theorem laN_app (j : Int) : ∀ (l r : List Int), laN j (l ++ r) = laN j l + laN j r
  | [], r => by simp [laN]
  | x :: l, r => by rw [List.cons_append, laN, laN, laN_app j l r, Nat.add_assoc]
theorem laN_le (j : Int) : ∀ (l : List Int), laN j l ≤ l.length
  | [] => Nat.le_refl _
  | x :: l => by
    have := laN_le j l
    rw [laN, List.length_cons]; split <;> omega
theorem laN_take (j : Int) (l : List Int) (k : Nat) (h : k < l.length) : laN j (l.take (k + 1)) = laN j (l.take k) + if j < l.getD k 0 then 1 else 0 := by
  rw [List.take_succ_eq_append_getElem h, laN_app, List.getD_eq_getElem?_getD, List.getElem?_eq_getElem h]
  rfl
/-- the hook of place j of candidate i -/
def hkN (xs : List Int) (i : Nat) (j : Int) : Int := xs.getD i 0 - j + laN j (xs.drop (i + 1))
def hkRow (xs : List Int) (i : Nat) : Nat → List Int
  | 0 => []
  | m + 1 => hkRow xs i m ++ [hkN xs i (m : Int)]
def hksTo (xs : List Int) : Nat → List (List Int)
  | 0 => []
  | k + 1 => hksTo xs k ++ [hkRow xs k (xs.getD k 0).toNat]
theorem hkRow_len (xs : List Int) (i : Nat) : ∀ m, (hkRow xs i m).length = m
  | 0 => rfl
  | m + 1 => by rw [hkRow, List.length_append, hkRow_len xs i m]; rfl
theorem hksTo_len (xs : List Int) : ∀ k, (hksTo xs k).length = k
  | 0 => rfl
  | k + 1 => by rw [hksTo, List.length_append, hksTo_len xs k]; rfl
def pd (l : List Int) : Int := l.foldl (fun x y => x * y) 1
theorem pd_nil : pd [] = 1 := rfl
theorem pd_snoc (l : List Int) (x : Int) : pd (l ++ [x]) = pd l * x := by unfold pd; rw [List.foldl_append]; rfl
def fac : Nat → Int
  | 0 => 1
  | n + 1 => fac n * (n + 1 : Nat)
def hkL (xs : List Int) : List Int := (hksTo xs 4).flatten
def coV (xs : List Int) : Int := (fac (hkL xs).length).tdiv (pd (hkL xs))
def q4 (a b c d : Nat) : List Int := [(a : Int), (b : Int), (c : Int), (d : Int)]
def hN (a b c d : Nat) : Nat := (coV (q4 a b c d)).toNat
def resP (a b c d : Nat) : Bool :=
  decide ((hkL (q4 a b c d)).length = a + b + c + d) && (hkL (q4 a b c d)).all (fun x => decide (1 ≤ x)) && decide (pd (hkL (q4 a b c d)) ≤ 100000000000000) && decide (coV (q4 a b c d) = ((hN a b c d : Nat) : Int)) &&
  decide (hN a b c d = if a + b + c + d = 0 then 1 else (if b < a then hN (a - 1) b c d else 0) + (if c < b then hN a (b - 1) c d else 0) + (if d < c then hN a b (c - 1) d else 0) + (if 0 < d then hN a b c (d - 1) else 0))
theorem resP_tab : ((List.range 17).all fun a => (List.range (a + 1)).all fun b => (List.range (b + 1)).all fun c => (List.range (c + 1)).all fun d => if a + b + c + d ≤ 16 then resP a b c d else true) = true := by decide +kernel
theorem resP_all {a b c d : Nat} (h1 : b ≤ a) (h2 : c ≤ b) (h3 : d ≤ c) (h : a + b + c + d ≤ 16) : resP a b c d = true := by
  have t := resP_tab
  rw [List.all_eq_true] at t
  have t := t a (List.mem_range.2 (by omega))
  rw [List.all_eq_true] at t
  have t := t b (List.mem_range.2 (by omega))
  rw [List.all_eq_true] at t
  have t := t c (List.mem_range.2 (by omega))
  rw [List.all_eq_true] at t
  have t := t d (List.mem_range.2 (by omega))
  rwa [if_pos h] at t
theorem resP_of {a b c d : Nat} (h1 : b ≤ a) (h2 : c ≤ b) (h3 : d ≤ c) (h : a + b + c + d ≤ 16) :
    (hkL (q4 a b c d)).length = a + b + c + d ∧ (∀ x, x ∈ hkL (q4 a b c d) → 1 ≤ x) ∧ pd (hkL (q4 a b c d)) ≤ 100000000000000 ∧ coV (q4 a b c d) = ((hN a b c d : Nat) : Int) ∧
    hN a b c d = if a + b + c + d = 0 then 1 else (if b < a then hN (a - 1) b c d else 0) + (if c < b then hN a (b - 1) c d else 0) + (if d < c then hN a b (c - 1) d else 0) + (if 0 < d then hN a b c (d - 1) else 0) := by
  have t := resP_all h1 h2 h3 h
  unfold resP at t
  simp only [Bool.and_eq_true, decide_eq_true_iff, List.all_eq_true] at t
  exact ⟨t.1.1.1.1, t.1.1.1.2, t.1.1.2, t.1.2, t.2⟩
theorem wy_eq0 : wy 0 0 0 0 0 0 0 0 0 = 1 := rfl
theorem hook_wy : ∀ (n : Nat) {a b c d : Nat} (h1 : b ≤ a) (h2 : c ≤ b) (h3 : d ≤ c) (h : a + b + c + d ≤ 16), a + b + c + d = n → hN a b c d = wy a b c d n 0 0 0 0
  | 0, a, b, c, d, h1, h2, h3, h, e => by
    obtain ⟨rfl, rfl, rfl, rfl⟩ : a = 0 ∧ b = 0 ∧ c = 0 ∧ d = 0 := by omega
    rw [(resP_of h1 h2 h3 h).2.2.2.2]
    rfl
  | n + 1, a, b, c, d, h1, h2, h3, h, e => by
    rw [(resP_of h1 h2 h3 h).2.2.2.2, if_neg (by omega), wy_back n 0 0 0 0 h1 h2 h3 (Nat.le_refl _) (Nat.le_refl _) (Nat.le_refl _)]
    congr 1
    · congr 1
      · congr 1
        · by_cases k : b < a
          · rw [if_pos k, if_pos k, hook_wy n (by omega) h2 h3 (by omega) (by omega)]
          · rw [if_neg k, if_neg k]
        · by_cases k : c < b
          · rw [if_pos k, if_pos k, hook_wy n (by omega) (by omega) h3 (by omega) (by omega)]
          · rw [if_neg k, if_neg k]
      · by_cases k : d < c
        · rw [if_pos k, if_pos k, hook_wy n h1 (by omega) (by omega) (by omega) (by omega)]
        · rw [if_neg k, if_neg k]
    · by_cases k : 0 < d
      · rw [if_pos k, if_pos k, hook_wy n h1 h2 (by omega) (by omega) (by omega)]
      · rw [if_neg k, if_neg k]
theorem pd_pos : ∀ (l : List Int) (z : Int), 1 ≤ z → (∀ x, x ∈ l → 1 ≤ x) → z ≤ l.foldl (fun x y => x * y) z
  | [], z, hz, _ => Int.le_refl _
  | x :: l, z, hz, h => by
    have hx := h x (by simp)
    have h1 : z * 1 ≤ z * x := Int.mul_le_mul_of_nonneg_left hx (by omega)
    rw [Int.mul_one] at h1
    have := pd_pos l (z * x) (by omega) (fun y hy => h y (by simp [hy]))
    rw [List.foldl_cons]
    omega
theorem pd_pre {l r : List Int} (h : ∀ x, x ∈ l ++ r → 1 ≤ x) : 1 ≤ pd l ∧ pd l ≤ pd (l ++ r) := by
  have h1 := pd_pos l 1 (Int.le_refl _) (fun x hx => h x (by simp [hx]))
  refine ⟨h1, ?_⟩
  unfold pd
  rw [List.foldl_append]
  exact pd_pos r _ h1 (fun x hx => h x (by simp [hx]))
theorem fac_bd : ∀ n, n ≤ 16 → 1 ≤ fac n ∧ fac n ≤ 20922789888000 := by decide
end Go.Proofs.Ytmfcknlpbliehaa

/- The race: ways on, ranks, votes of a rank, lists. -/
namespace Go.Proofs.Ytmfcknlpbliehaa
set_option linter.unusedVariables false
def up (p : Nat → Nat) (i : Nat) : Nat → Nat := fun j => if j = i then p j + 1 else p j
theorem up_at (p : Nat → Nat) (i : Nat) : up p i i = p i + 1 := by unfold up; rw [if_pos rfl]
theorem up_ne (p : Nat → Nat) {i j : Nat} (h : ¬ j = i) : up p i j = p j := by unfold up; rw [if_neg h]
def tot (p : Nat → Nat) : Nat := p 0 + p 1 + p 2 + p 3
theorem tot_up (p : Nat → Nat) {i : Nat} (h : i < 4) : tot (up p i) = tot p + 1 := by
  have : i = 0 ∨ i = 1 ∨ i = 2 ∨ i = 3 := by omega
  rcases this with e | e | e | e <;> subst e <;> simp [tot, up] <;> omega
def W (R p : Nat → Nat) : Nat := wy (R 0) (R 1) (R 2) (R 3) (tot R - tot p) (p 0) (p 1) (p 2) (p 3)
/-- no vote for i may come -/
def no (R p : Nat → Nat) (i : Nat) : Prop := p i = R i ∨ (0 < i ∧ p i = p (i - 1))
instance (R p : Nat → Nat) (i : Nat) : Decidable (no R p i) := by unfold no; infer_instance
def byW (R p : Nat → Nat) (i : Nat) : Nat := if no R p i then 0 else W R (up p i)
def byS (R p : Nat → Nat) : Nat → Nat
  | 0 => 0
  | i + 1 => byS R p i + byW R p i
structure Ok (R p : Nat → Nat) : Prop where
  le : ∀ i, i < 4 → p i ≤ R i
  fall : ∀ i, i < 3 → p (i + 1) ≤ p i
def same (R p : Nat → Nat) : Prop := p 0 = R 0 ∧ p 1 = R 1 ∧ p 2 = R 2 ∧ p 3 = R 3
instance (R p : Nat → Nat) : Decidable (same R p) := by unfold same; infer_instance
theorem Ok.tle {R p : Nat → Nat} (h : Ok R p) : tot p ≤ tot R := by
  have h0 := h.le 0 (by omega); have h1 := h.le 1 (by omega); have h2 := h.le 2 (by omega); have h3 := h.le 3 (by omega)
  unfold tot; omega
theorem Ok.same_iff {R p : Nat → Nat} (h : Ok R p) : same R p ↔ tot p = tot R := by
  have h0 := h.le 0 (by omega); have h1 := h.le 1 (by omega); have h2 := h.le 2 (by omega); have h3 := h.le 3 (by omega)
  unfold same tot; omega
theorem Ok.up {R p : Nat → Nat} (h : Ok R p) {i : Nat} (hi : i < 4) (hn : ¬ no R p i) : Ok R (up p i) := by
  have h0 := h.le 0 (by omega); have h1 := h.le 1 (by omega); have h2 := h.le 2 (by omega); have h3 := h.le 3 (by omega)
  have f0 := h.fall 0 (by omega); have f1 := h.fall 1 (by omega); have f2 := h.fall 2 (by omega)
  unfold no at hn
  have hc : i = 0 ∨ i = 1 ∨ i = 2 ∨ i = 3 := by omega
  refine ⟨fun j hj => ?_, fun j hj => ?_⟩
  · have hj2 : j = 0 ∨ j = 1 ∨ j = 2 ∨ j = 3 := by omega
    rcases hc with e | e | e | e <;> subst e <;> rcases hj2 with e | e | e | e <;> subst e <;> simp [up.eq_def] at * <;> omega
  · have hj2 : j = 0 ∨ j = 1 ∨ j = 2 := by omega
    rcases hc with e | e | e | e <;> subst e <;> rcases hj2 with e | e | e <;> subst e <;> simp [up.eq_def] at * <;> omega
theorem W_end {R p : Nat → Nat} (h : same R p) : W R p = 1 := by
  unfold W
  obtain ⟨h0, h1, h2, h3⟩ := h
  have e : tot R - tot p = 0 := by unfold tot; omega
  rw [e, wy, if_pos ⟨h0, h1, h2, h3⟩]
theorem byW_go {R p : Nat → Nat} {i : Nat} (h : ¬ no R p i) : byW R p i = W R (up p i) := by unfold byW; rw [if_neg h]
theorem byW_no {R p : Nat → Nat} {i : Nat} (h : no R p i) : byW R p i = 0 := by unfold byW; rw [if_pos h]
theorem W_eq {R p : Nat → Nat} (h : Ok R p) (hn : ¬ same R p) : W R p = byS R p 4 := by
  have h0 := h.le 0 (by omega); have h1 := h.le 1 (by omega); have h2 := h.le 2 (by omega); have h3 := h.le 3 (by omega)
  have f0 := h.fall 0 (by omega); have f1 := h.fall 1 (by omega); have f2 := h.fall 2 (by omega)
  have ht : ¬ tot p = tot R := fun e => hn (h.same_iff.2 e)
  have hle := h.tle
  obtain ⟨n, hn⟩ : ∃ n, tot R - tot p = n + 1 := ⟨tot R - tot p - 1, by omega⟩
  have e : ∀ i, i < 4 → tot R - tot (up p i) = n := fun i hi => by rw [tot_up p hi]; omega
  show wy (R 0) (R 1) (R 2) (R 3) (tot R - tot p) (p 0) (p 1) (p 2) (p 3) = 0 + byW R p 0 + byW R p 1 + byW R p 2 + byW R p 3
  rw [hn, wy, Nat.zero_add]
  congr 1
  · congr 1
    · congr 1
      · by_cases k : no R p 0
        · rw [byW_no k]
          unfold no at k
          exact wy_big _ _ _ _ _ (by omega)
        · rw [byW_go k]
          show _ = wy _ _ _ _ (tot R - tot (up p 0)) _ _ _ _
          rw [e 0 (by omega)]
          rfl
      · by_cases k : no R p 1
        · rw [byW_no k]
          unfold no at k
          simp at k
          split
          · exact wy_big _ _ _ _ _ (by omega)
          · rfl
        · rw [byW_go k]
          unfold no at k
          simp at k f0
          rw [if_pos (by omega)]
          show _ = wy _ _ _ _ (tot R - tot (up p 1)) _ _ _ _
          rw [e 1 (by omega)]
          rfl
    · by_cases k : no R p 2
      · rw [byW_no k]
        unfold no at k
        simp at k
        split
        · exact wy_big _ _ _ _ _ (by omega)
        · rfl
      · rw [byW_go k]
        unfold no at k
        simp at k f1
        rw [if_pos (by omega)]
        show _ = wy _ _ _ _ (tot R - tot (up p 2)) _ _ _ _
        rw [e 2 (by omega)]
        rfl
  · by_cases k : no R p 3
    · rw [byW_no k]
      unfold no at k
      simp at k
      split
      · exact wy_big _ _ _ _ _ (by omega)
      · rfl
    · rw [byW_go k]
      unfold no at k
      simp at k f2
      rw [if_pos (by omega)]
      show _ = wy _ _ _ _ (tot R - tot (up p 3)) _ _ _ _
      rw [e 3 (by omega)]
      rfl
theorem W_bd {R p : Nat → Nat} (hR : tot R ≤ 16) : W R p ≤ 4294967296 := by
  unfold W
  refine Nat.le_trans (wy_le _ _ _ _ _) ?_
  exact Nat.le_trans (Nat.pow_le_pow_right (by omega) (by omega : tot R - tot p ≤ 16)) (by decide)
theorem byW_bd {R p : Nat → Nat} (hR : tot R ≤ 16) (i : Nat) : byW R p i ≤ 4294967296 := by
  unfold byW; split
  · omega
  · exact W_bd hR
theorem byS_bd {R p : Nat → Nat} (hR : tot R ≤ 16) : ∀ i, byS R p i ≤ 4294967296 * i
  | 0 => Nat.le_refl _
  | i + 1 => by
    have := byS_bd (p := p) hR i
    have := byW_bd (p := p) hR i
    rw [byS]; omega
/-- the candidate of the next vote of rank k -/
def ci (R p : Nat → Nat) (k : Nat) : Nat := if k < byS R p 1 then 0 else if k < byS R p 2 then 1 else if k < byS R p 3 then 2 else 3
theorem byS_mono (R p : Nat → Nat) : ∀ (i n : Nat), byS R p i ≤ byS R p (i + n)
  | i, 0 => Nat.le_refl _
  | i, n + 1 => by
    have := byS_mono R p i n
    rw [show i + (n + 1) = i + n + 1 from rfl, byS]; omega
theorem ci_lt (R p : Nat → Nat) (k : Nat) : ci R p k < 4 := by unfold ci; (repeat' split) <;> omega
theorem ci_at {R p : Nat → Nat} {k : Nat} (h : k < byS R p 4) : byS R p (ci R p k) ≤ k ∧ k < byS R p (ci R p k + 1) := by
  have z : byS R p 0 = 0 := rfl
  unfold ci
  by_cases h1 : k < byS R p 1
  · rw [if_pos h1]; exact ⟨by omega, h1⟩
  · rw [if_neg h1]
    by_cases h2 : k < byS R p 2
    · rw [if_pos h2]; exact ⟨by omega, h2⟩
    · rw [if_neg h2]
      by_cases h3 : k < byS R p 3
      · rw [if_pos h3]; exact ⟨by omega, h3⟩
      · rw [if_neg h3]; exact ⟨by omega, h⟩
theorem ci_of {R p : Nat → Nat} {k i : Nat} (hi : i < 4) (h1 : byS R p i ≤ k) (h2 : k < byS R p (i + 1)) : ci R p k = i := by
  have m := byS_mono R p
  have z : byS R p 0 = 0 := rfl
  unfold ci
  have : i = 0 ∨ i = 1 ∨ i = 2 ∨ i = 3 := by omega
  rcases this with e | e | e | e <;> subst e
  · rw [if_pos h2]
  · rw [if_neg (by omega), if_pos h2]
  · have a1 : byS R p 1 ≤ byS R p 2 := m 1 1
    rw [if_neg (by omega), if_neg (by omega), if_pos h2]
  · have a1 : byS R p 1 ≤ byS R p 3 := m 1 2
    have a2 : byS R p 2 ≤ byS R p 3 := m 2 1
    rw [if_neg (by omega), if_neg (by omega), if_neg (by omega)]
theorem ci_yes {R p : Nat → Nat} {k : Nat} (h : k < byS R p 4) : ¬ no R p (ci R p k) := fun hn => by
  have h1 := ci_at h
  rw [byS, byW_no hn] at h1
  omega
/-- n votes on, of rank k -/
def uw (R : Nat → Nat) : Nat → (Nat → Nat) → Nat → List Nat
  | 0, _, _ => []
  | n + 1, p, k => ci R p k :: uw R n (up p (ci R p k)) (k - byS R p (ci R p k))
/-- all votes on -/
def ll (R : Nat → Nat) : Nat → (Nat → Nat) → List (List Nat)
  | 0, _ => [[]]
  | n + 1, p => (if no R p 0 then [] else (ll R n (up p 0)).map (List.cons 0)) ++ (if no R p 1 then [] else (ll R n (up p 1)).map (List.cons 1)) ++ (if no R p 2 then [] else (ll R n (up p 2)).map (List.cons 2)) ++ (if no R p 3 then [] else (ll R n (up p 3)).map (List.cons 3))
theorem range_add (a b : Nat) (f : Nat → List Nat) : (List.range (a + b)).map f = (List.range a).map f ++ (List.range b).map (fun j => f (a + j)) := by
  rw [List.range_add, List.map_append, List.map_map]
  rfl
theorem uw_blk {R p : Nat → Nat} (n i : Nat) (hi : i < 4) (hW : ∀ q, Ok R q → tot q + n = tot R → (List.range (W R q)).map (uw R n q) = ll R n q) (h : Ok R p) (ht : tot p + (n + 1) = tot R) :
    (List.range (byW R p i)).map (fun j => uw R (n + 1) p (byS R p i + j)) = if no R p i then [] else (ll R n (up p i)).map (List.cons i) := by
  by_cases k : no R p i
  · rw [if_pos k, byW_no k]; rfl
  · rw [if_neg k, byW_go k, ← hW (up p i) (h.up hi k) (by rw [tot_up p hi]; omega), List.map_map]
    apply List.map_congr_left
    intro j hj
    have hj := List.mem_range.1 hj
    have e : ci R p (byS R p i + j) = i := ci_of hi (by omega) (by rw [byS, byW_go k]; omega)
    show ci R p (byS R p i + j) :: uw R n (up p (ci R p (byS R p i + j))) (byS R p i + j - byS R p (ci R p (byS R p i + j))) = i :: uw R n (up p i) j
    rw [e, Nat.add_sub_cancel_left]
theorem uw_ll {R : Nat → Nat} : ∀ (n : Nat) (p : Nat → Nat), Ok R p → tot p + n = tot R → (List.range (W R p)).map (uw R n p) = ll R n p
  | 0, p, h, ht => by
    rw [W_end (h.same_iff.2 (by omega))]
    rfl
  | n + 1, p, h, ht => by
    have hn : ¬ same R p := fun e => by have := h.same_iff.1 e; omega
    rw [W_eq h hn]
    show (List.range (0 + byW R p 0 + byW R p 1 + byW R p 2 + byW R p 3)).map _ = _
    have hW := fun q (hq : Ok R q) (e : tot q + n = tot R) => uw_ll n q hq e
    rw [range_add, range_add, range_add, Nat.zero_add]
    rw [ll]
    have b0 := uw_blk n 0 (by omega) hW h ht
    have b1 := uw_blk n 1 (by omega) hW h ht
    have b2 := uw_blk n 2 (by omega) hW h ht
    have b3 := uw_blk n 3 (by omega) hW h ht
    rw [← b0, ← b1, ← b2, ← b3]
    have z1 : byS R p 1 = byW R p 0 := by show 0 + byW R p 0 = _; omega
    have z2 : byS R p 2 = byW R p 0 + byW R p 1 := by show 0 + byW R p 0 + byW R p 1 = _; omega
    have z3 : byS R p 3 = byW R p 0 + byW R p 1 + byW R p 2 := by show 0 + byW R p 0 + byW R p 1 + byW R p 2 = _; omega
    have z0 : byS R p 0 = 0 := rfl
    rw [z0, z1, z2, z3]
    simp only [Nat.zero_add]
theorem ll_len {R : Nat → Nat} (n : Nat) (p : Nat → Nat) (h : Ok R p) (ht : tot p + n = tot R) : (ll R n p).length = W R p := by
  rw [← uw_ll n p h ht, List.length_map, List.length_range]
theorem Ok.zero {R : Nat → Nat} : Ok R (fun _ => 0) := ⟨fun _ _ => Nat.zero_le _, fun _ _ => Nat.le_refl _⟩
/-- one step of the votes of rank k -/
theorem step_ok {R p : Nat → Nat} {k : Nat} (h : Ok R p) (hk : k < W R p) (hn : ¬ same R p) :
    k < byS R p 4 ∧ ¬ no R p (ci R p k) ∧ Ok R (up p (ci R p k)) ∧ byS R p (ci R p k) ≤ k ∧ k - byS R p (ci R p k) < W R (up p (ci R p k)) ∧ tot (up p (ci R p k)) = tot p + 1 := by
  have e := W_eq h hn
  have h4 : k < byS R p 4 := by omega
  have hno := ci_yes h4
  have h1 := ci_at h4
  have hlt := ci_lt R p k
  rw [byS, byW_go hno] at h1
  exact ⟨h4, hno, h.up hlt hno, h1.1, by omega, tot_up p hlt⟩
end Go.Proofs.Ytmfcknlpbliehaa
