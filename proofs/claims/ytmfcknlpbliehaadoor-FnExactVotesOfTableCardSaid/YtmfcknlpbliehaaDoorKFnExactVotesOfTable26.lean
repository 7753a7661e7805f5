/- Pack 26 of what FnExactVotesOfTable needs: VoTab, WayM2. -/
import Derived.Test.YtmfcknlpbliehaaDoorKFnExactVotesOfTable25
/- TableOfVotes: the model. -/
namespace Go.Proofs.YtmfcknlpbliehaaDoor
open Go.RowKit
set_option linter.unusedVariables false
def taV (s : ByteArray) : List (List Int) := if oB s = true then tbS s s.size else []
theorem taV_len (s : ByteArray) : (taV s).length ≤ 4 := by unfold taV; split <;> simp [tbS]
theorem taV_flat (s : ByteArray) : (taV s).flatten.length ≤ 16 := by
  unfold taV
  split
  · rename_i h
    have hv := (oB_of h).1
    rw [tbS_size s hv]
    exact ((votB_iff s).1 hv).1
  · simp
end Go.Proofs.YtmfcknlpbliehaaDoor

/- The race: ways on, ranks, votes of a rank, lists. -/
namespace Go.Proofs.YtmfcknlpbliehaaDoor
set_option linter.unusedVariables false
def up (p : Nat → Nat) (i : Nat) : Nat → Nat := fun j => if j = i then p j + 1 else p j
theorem up_at (p : Nat → Nat) (i : Nat) : up p i i = p i + 1 := by unfold up; rw [if_pos rfl]
theorem up_ne (p : Nat → Nat) {i j : Nat} (h : ¬ j = i) : up p i j = p j := by unfold up; rw [if_neg h]
def tot (p : Nat → Nat) : Nat := p 0 + p 1 + p 2 + p 3
theorem tot_up (p : Nat → Nat) {i : Nat} (h : i < 4) : tot (up p i) = tot p + 1 := by
  have : i = 0 ∨ i = 1 ∨ i = 2 ∨ i = 3 := by omega
  rcases this with e | e | e | e <;> subst e <;> simp [tot, up] <;> omega
def W (R p : Nat → Nat) : Nat := wy (R 0) (R 1) (R 2) (R 3) (tot R - tot p) (p 0) (p 1) (p 2) (p 3)
/-- no vote for i may come -/
def no (R p : Nat → Nat) (i : Nat) : Prop := p i = R i ∨ (0 < i ∧ p i = p (i - 1))
instance (R p : Nat → Nat) (i : Nat) : Decidable (no R p i) := by unfold no; infer_instance
def byW (R p : Nat → Nat) (i : Nat) : Nat := if no R p i then 0 else W R (up p i)
def byS (R p : Nat → Nat) : Nat → Nat
  | 0 => 0
  | i + 1 => byS R p i + byW R p i
structure Ok (R p : Nat → Nat) : Prop where
  le : ∀ i, i < 4 → p i ≤ R i
  fall : ∀ i, i < 3 → p (i + 1) ≤ p i
def same (R p : Nat → Nat) : Prop := p 0 = R 0 ∧ p 1 = R 1 ∧ p 2 = R 2 ∧ p 3 = R 3
instance (R p : Nat → Nat) : Decidable (same R p) := by unfold same; infer_instance
theorem Ok.tle {R p : Nat → Nat} (h : Ok R p) : tot p ≤ tot R := by
  have h0 := h.le 0 (by omega); have h1 := h.le 1 (by omega); have h2 := h.le 2 (by omega); have h3 := h.le 3 (by omega)
  unfold tot; omega
theorem Ok.same_iff {R p : Nat → Nat} (h : Ok R p) : same R p ↔ tot p = tot R := by
  have h0 := h.le 0 (by omega); have h1 := h.le 1 (by omega); have h2 := h.le 2 (by omega); have h3 := h.le 3 (by omega)
  unfold same tot; omega
theorem Ok.up {R p : Nat → Nat} (h : Ok R p) {i : Nat} (hi : i < 4) (hn : ¬ no R p i) : Ok R (up p i) := by
  have h0 := h.le 0 (by omega); have h1 := h.le 1 (by omega); have h2 := h.le 2 (by omega); have h3 := h.le 3 (by omega)
  have f0 := h.fall 0 (by omega); have f1 := h.fall 1 (by omega); have f2 := h.fall 2 (by omega)
  unfold no at hn
  have hc : i = 0 ∨ i = 1 ∨ i = 2 ∨ i = 3 := by omega
  refine ⟨fun j hj => ?_, fun j hj => ?_⟩
  · have hj2 : j = 0 ∨ j = 1 ∨ j = 2 ∨ j = 3 := by omega
    rcases hc with e | e | e | e <;> subst e <;> rcases hj2 with e | e | e | e <;> subst e <;> simp [up.eq_def] at * <;> omega
  · have hj2 : j = 0 ∨ j = 1 ∨ j = 2 := by omega
    rcases hc with e | e | e | e <;> subst e <;> rcases hj2 with e | e | e <;> subst e <;> simp [up.eq_def] at * <;> omega
theorem W_end {R p : Nat → Nat} (h : same R p) : W R p = 1 := by
  unfold W
  obtain ⟨h0, h1, h2, h3⟩ := h
  have e : tot R - tot p = 0 := by unfold tot; omega
  rw [e, wy, if_pos ⟨h0, h1, h2, h3⟩]
theorem byW_go {R p : Nat → Nat} {i : Nat} (h : ¬ no R p i) : byW R p i = W R (up p i) := by unfold byW; rw [if_neg h]
theorem byW_no {R p : Nat → Nat} {i : Nat} (h : no R p i) : byW R p i = 0 := by unfold byW; rw [if_pos h]
theorem W_eq {R p : Nat → Nat} (h : Ok R p) (hn : ¬ same R p) : W R p = byS R p 4 := by
  have h0 := h.le 0 (by omega); have h1 := h.le 1 (by omega); have h2 := h.le 2 (by omega); have h3 := h.le 3 (by omega)
  have f0 := h.fall 0 (by omega); have f1 := h.fall 1 (by omega); have f2 := h.fall 2 (by omega)
  have ht : ¬ tot p = tot R := fun e => hn (h.same_iff.2 e)
  have hle := h.tle
  obtain ⟨n, hn⟩ : ∃ n, tot R - tot p = n + 1 := ⟨tot R - tot p - 1, by omega⟩
  have e : ∀ i, i < 4 → tot R - tot (up p i) = n := fun i hi => by rw [tot_up p hi]; omega
  show wy (R 0) (R 1) (R 2) (R 3) (tot R - tot p) (p 0) (p 1) (p 2) (p 3) = 0 + byW R p 0 + byW R p 1 + byW R p 2 + byW R p 3
  rw [hn, wy, Nat.zero_add]
  congr 1
  · congr 1
    · congr 1
      · by_cases k : no R p 0
        · rw [byW_no k]
          unfold no at k
          exact wy_big _ _ _ _ _ (by omega)
        · rw [byW_go k]
          show _ = wy _ _ _ _ (tot R - tot (up p 0)) _ _ _ _
          rw [e 0 (by omega)]
          rfl
      · by_cases k : no R p 1
        · rw [byW_no k]
          unfold no at k
          simp at k
          split
          · exact wy_big _ _ _ _ _ (by omega)
          · rfl
        · rw [byW_go k]
          unfold no at k
          simp at k f0
          rw [if_pos (by omega)]
          show _ = wy _ _ _ _ (tot R - tot (up p 1)) _ _ _ _
          rw [e 1 (by omega)]
          rfl
    · by_cases k : no R p 2
      · rw [byW_no k]
        unfold no at k
        simp at k
        split
        · exact wy_big _ _ _ _ _ (by omega)
        · rfl
      · rw [byW_go k]
        unfold no at k
        simp at k f1
        rw [if_pos (by omega)]
        show _ = wy _ _ _ _ (tot R - tot (up p 2)) _ _ _ _
        rw [e 2 (by omega)]
        rfl
  · by_cases k : no R p 3
    · rw [byW_no k]
      unfold no at k
      simp at k
      split
      · exact wy_big _ _ _ _ _ (by omega)
      · rfl
    · rw [byW_go k]
      unfold no at k
      simp at k f2
      rw [if_pos (by omega)]
      show _ = wy _ _ _ _ (tot R - tot (up p 3)) _ _ _ _
      rw [e 3 (by omega)]
      rfl
theorem W_bd {R p : Nat → Nat} (hR : tot R ≤ 16) : W R p ≤ 4294967296 := by
  unfold W
  refine Nat.le_trans (wy_le _ _ _ _ _) ?_
  exact Nat.le_trans (Nat.pow_le_pow_right (by omega) (by omega : tot R - tot p ≤ 16)) (by decide)
theorem byW_bd {R p : Nat → Nat} (hR : tot R ≤ 16) (i : Nat) : byW R p i ≤ 4294967296 := by
  unfold byW; split
  · omega
  · exact W_bd hR
theorem byS_bd {R p : Nat → Nat} (hR : tot R ≤ 16) : ∀ i, byS R p i ≤ 4294967296 * i
  | 0 => Nat.le_refl _
  | i + 1 => by
    have := byS_bd (p := p) hR i
    have := byW_bd (p := p) hR i
    rw [byS]; omega
/-- the candidate of the next vote of rank k -/
def ci (R p : Nat → Nat) (k : Nat) : Nat := if k < byS R p 1 then 0 else if k < byS R p 2 then 1 else if k < byS R p 3 then 2 else 3
theorem byS_mono (R p : Nat → Nat) : ∀ (i n : Nat), byS R p i ≤ byS R p (i + n)
  | i, 0 => Nat.le_refl _
  | i, n + 1 => by
    have := byS_mono R p i n
    rw [show i + (n + 1) = i + n + 1 from rfl, byS]; omega
theorem ci_lt (R p : Nat → Nat) (k : Nat) : ci R p k < 4 := by unfold ci; (repeat' split) <;> omega
theorem ci_at {R p : Nat → Nat} {k : Nat} (h : k < byS R p 4) : byS R p (ci R p k) ≤ k ∧ k < byS R p (ci R p k + 1) := by
  have z : byS R p 0 = 0 := rfl
  unfold ci
  by_cases h1 : k < byS R p 1
  · rw [if_pos h1]; exact ⟨by omega, h1⟩
  · rw [if_neg h1]
    by_cases h2 : k < byS R p 2
    · rw [if_pos h2]; exact ⟨by omega, h2⟩
    · rw [if_neg h2]
      by_cases h3 : k < byS R p 3
      · rw [if_pos h3]; exact ⟨by omega, h3⟩
      · rw [if_neg h3]; exact ⟨by omega, h⟩
theorem ci_of {R p : Nat → Nat} {k i : Nat} (hi : i < 4) (h1 : byS R p i ≤ k) (h2 : k < byS R p (i + 1)) : ci R p k = i := by
  have m := byS_mono R p
  have z : byS R p 0 = 0 := rfl
  unfold ci
  have : i = 0 ∨ i = 1 ∨ i = 2 ∨ i = 3 := by omega
  rcases this with e | e | e | e <;> subst e
  · rw [if_pos h2]
  · rw [if_neg (by omega), if_pos h2]
  · have a1 : byS R p 1 ≤ byS R p 2 := m 1 1
    rw [if_neg (by omega), if_neg (by omega), if_pos h2]
  · have a1 : byS R p 1 ≤ byS R p 3 := m 1 2
    have a2 : byS R p 2 ≤ byS R p 3 := m 2 1
    rw [if_neg (by omega), if_neg (by omega), if_neg (by omega)]
theorem ci_yes {R p : Nat → Nat} {k : Nat} (h : k < byS R p 4) : ¬ no R p (ci R p k) := fun hn => by
  have h1 := ci_at h
  rw [byS, byW_no hn] at h1
  omega
/-- n votes on, of rank k -/
def uw (R : Nat → Nat) : Nat → (Nat → Nat) → Nat → List Nat
  | 0, _, _ => []
  | n + 1, p, k => ci R p k :: uw R n (up p (ci R p k)) (k - byS R p (ci R p k))
/-- all votes on -/
def ll (R : Nat → Nat) : Nat → (Nat → Nat) → List (List Nat)
  | 0, _ => [[]]
  | n + 1, p => (if no R p 0 then [] else (ll R n (up p 0)).map (List.cons 0)) ++ (if no R p 1 then [] else (ll R n (up p 1)).map (List.cons 1)) ++ (if no R p 2 then [] else (ll R n (up p 2)).map (List.cons 2)) ++ (if no R p 3 then [] else (ll R n (up p 3)).map (List.cons 3))
theorem range_add (a b : Nat) (f : Nat → List Nat) : (List.range (a + b)).map f = (List.range a).map f ++ (List.range b).map (fun j => f (a + j)) := by
  rw [List.range_add, List.map_append, List.map_map]
  rfl
theorem uw_blk {R p : Nat → Nat} (n i : Nat) (hi : i < 4) (hW : ∀ q, Ok R q → tot q + n = tot R → (List.range (W R q)).map (uw R n q) = ll R n q) (h : Ok R p) (ht : tot p + (n + 1) = tot R) :
    (List.range (byW R p i)).map (fun j => uw R (n + 1) p (byS R p i + j)) = if no R p i then [] else (ll R n (up p i)).map (List.cons i) := by
  by_cases k : no R p i
  · rw [if_pos k, byW_no k]; rfl
  · rw [if_neg k, byW_go k, ← hW (up p i) (h.up hi k) (by rw [tot_up p hi]; omega), List.map_map]
    apply List.map_congr_left
    intro j hj
    have hj := List.mem_range.1 hj
    have e : ci R p (byS R p i + j) = i := ci_of hi (by omega) (by rw [byS, byW_go k]; omega)
    show ci R p (byS R p i + j) :: uw R n (up p (ci R p (byS R p i + j))) (byS R p i + j - byS R p (ci R p (byS R p i + j))) = i :: uw R n (up p i) j
    rw [e, Nat.add_sub_cancel_left]
theorem uw_ll {R : Nat → Nat} : ∀ (n : Nat) (p : Nat → Nat), Ok R p → tot p + n = tot R → (List.range (W R p)).map (uw R n p) = ll R n p
  | 0, p, h, ht => by
    rw [W_end (h.same_iff.2 (by omega))]
    rfl
  | n + 1, p, h, ht => by
    have hn : ¬ same R p := fun e => by have := h.same_iff.1 e; omega
    rw [W_eq h hn]
    show (List.range (0 + byW R p 0 + byW R p 1 + byW R p 2 + byW R p 3)).map _ = _
    have hW := fun q (hq : Ok R q) (e : tot q + n = tot R) => uw_ll n q hq e
    rw [range_add, range_add, range_add, Nat.zero_add]
    rw [ll]
    have b0 := uw_blk n 0 (by omega) hW h ht
    have b1 := uw_blk n 1 (by omega) hW h ht
    have b2 := uw_blk n 2 (by omega) hW h ht
    have b3 := uw_blk n 3 (by omega) hW h ht
    rw [← b0, ← b1, ← b2, ← b3]
    have z1 : byS R p 1 = byW R p 0 := by show 0 + byW R p 0 = _; omega
    have z2 : byS R p 2 = byW R p 0 + byW R p 1 := by show 0 + byW R p 0 + byW R p 1 = _; omega
    have z3 : byS R p 3 = byW R p 0 + byW R p 1 + byW R p 2 := by show 0 + byW R p 0 + byW R p 1 + byW R p 2 = _; omega
    have z0 : byS R p 0 = 0 := rfl
    rw [z0, z1, z2, z3]
    simp only [Nat.zero_add]
theorem ll_len {R : Nat → Nat} (n : Nat) (p : Nat → Nat) (h : Ok R p) (ht : tot p + n = tot R) : (ll R n p).length = W R p := by
  rw [← uw_ll n p h ht, List.length_map, List.length_range]
theorem Ok.zero {R : Nat → Nat} : Ok R (fun _ => 0) := ⟨fun _ _ => Nat.zero_le _, fun _ _ => Nat.le_refl _⟩
/-- one step of the votes of rank k -/
theorem step_ok {R p : Nat → Nat} {k : Nat} (h : Ok R p) (hk : k < W R p) (hn : ¬ same R p) :
    k < byS R p 4 ∧ ¬ no R p (ci R p k) ∧ Ok R (up p (ci R p k)) ∧ byS R p (ci R p k) ≤ k ∧ k - byS R p (ci R p k) < W R (up p (ci R p k)) ∧ tot (up p (ci R p k)) = tot p + 1 := by
  have e := W_eq h hn
  have h4 : k < byS R p 4 := by omega
  have hno := ci_yes h4
  have h1 := ci_at h4
  have hlt := ci_lt R p k
  rw [byS, byW_go hno] at h1
  exact ⟨h4, hno, h.up hlt hno, h1.1, by omega, tot_up p hlt⟩
end Go.Proofs.YtmfcknlpbliehaaDoor
