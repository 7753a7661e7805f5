/- Pack 5 of what FnExactRankOrdered needs: WayM2, InList. -/
import Derived.Test.YtmfcknlpbliehaaDoorKFnExactRankOrdered4
/- The race: ways on, ranks, votes of a rank, lists. -/
namespace Go.Proofs.YtmfcknlpbliehaaDoor
set_option linter.unusedVariables false
def up (p : Nat → Nat) (i : Nat) : Nat → Nat := fun j => if j = i then p j + 1 else p j
theorem up_at (p : Nat → Nat) (i : Nat) : up p i i = p i + 1 := by unfold up; rw [if_pos rfl]
theorem up_ne (p : Nat → Nat) {i j : Nat} (h : ¬ j = i) : up p i j = p j := by unfold up; rw [if_neg h]
def tot (p : Nat → Nat) : Nat := p 0 + p 1 + p 2 + p 3
theorem tot_up (p : Nat → Nat) {i : Nat} (h : i < 4) : tot (up p i) = tot p + 1 := by
  have : i = 0 ∨ i = 1 ∨ i = 2 ∨ i = 3 := by omega
  rcases this with e | e | e | e <;> subst e <;> simp [tot, up] <;> omega
def W (R p : Nat → Nat) : Nat := wy (R 0) (R 1) (R 2) (R 3) (tot R - tot p) (p 0) (p 1) (p 2) (p 3)
/-- no vote for i may come -/
def no (R p : Nat → Nat) (i : Nat) : Prop := p i = R i ∨ (0 < i ∧ p i = p (i - 1))
instance (R p : Nat → Nat) (i : Nat) : Decidable (no R p i) := by unfold no; infer_instance
def byW (R p : Nat → Nat) (i : Nat) : Nat := if no R p i then 0 else W R (up p i)
def byS (R p : Nat → Nat) : Nat → Nat
  | 0 => 0
  | i + 1 => byS R p i + byW R p i
structure Ok (R p : Nat → Nat) : Prop where
  le : ∀ i, i < 4 → p i ≤ R i
  fall : ∀ i, i < 3 → p (i + 1) ≤ p i
def same (R p : Nat → Nat) : Prop := p 0 = R 0 ∧ p 1 = R 1 ∧ p 2 = R 2 ∧ p 3 = R 3
instance (R p : Nat → Nat) : Decidable (same R p) := by unfold same; infer_instance
theorem Ok.tle {R p : Nat → Nat} (h : Ok R p) : tot p ≤ tot R := by
  have h0 := h.le 0 (by omega); have h1 := h.le 1 (by omega); have h2 := h.le 2 (by omega); have h3 := h.le 3 (by omega)
  unfold tot; omega
theorem Ok.same_iff {R p : Nat → Nat} (h : Ok R p) : same R p ↔ tot p = tot R := by
  have h0 := h.le 0 (by omega); have h1 := h.le 1 (by omega); have h2 := h.le 2 (by omega); have h3 := h.le 3 (by omega)
  unfold same tot; omega
theorem Ok.up {R p : Nat → Nat} (h : Ok R p) {i : Nat} (hi : i < 4) (hn : ¬ no R p i) : Ok R (up p i) := by
  have h0 := h.le 0 (by omega); have h1 := h.le 1 (by omega); have h2 := h.le 2 (by omega); have h3 := h.le 3 (by omega)
  have f0 := h.fall 0 (by omega); have f1 := h.fall 1 (by omega); have f2 := h.fall 2 (by omega)
  unfold no at hn
  have hc : i = 0 ∨ i = 1 ∨ i = 2 ∨ i = 3 := by omega
  refine ⟨fun j hj => ?_, fun j hj => ?_⟩
  · have hj2 : j = 0 ∨ j = 1 ∨ j = 2 ∨ j = 3 := by omega
    rcases hc with e | e | e | e <;> subst e <;> rcases hj2 with e | e | e | e <;> subst e <;> simp [up.eq_def] at * <;> omega
  · have hj2 : j = 0 ∨ j = 1 ∨ j = 2 := by omega
    rcases hc with e | e | e | e <;> subst e <;> rcases hj2 with e | e | e <;> subst e <;> simp [up.eq_def] at * <;> omega
theorem W_end {R p : Nat → Nat} (h : same R p) : W R p = 1 := by
  unfold W
  obtain ⟨h0, h1, h2, h3⟩ := h
  have e : tot R - tot p = 0 := by unfold tot; omega
  rw [e, wy, if_pos ⟨h0, h1, h2, h3⟩]
theorem byW_go {R p : Nat → Nat} {i : Nat} (h : ¬ no R p i) : byW R p i = W R (up p i) := by unfold byW; rw [if_neg h]
theorem byW_no {R p : Nat → Nat} {i : Nat} (h : no R p i) : byW R p i = 0 := by unfold byW; rw [if_pos h]
theorem W_eq {R p : Nat → Nat} (h : Ok R p) (hn : ¬ same R p) : W R p = byS R p 4 := by
  have h0 := h.le 0 (by omega); have h1 := h.le 1 (by omega); have h2 := h.le 2 (by omega); have h3 := h.le 3 (by omega)
  have f0 := h.fall 0 (by omega); have f1 := h.fall 1 (by omega); have f2 := h.fall 2 (by omega)
  have ht : ¬ tot p = tot R := fun e => hn (h.same_iff.2 e)
  have hle := h.tle
  obtain ⟨n, hn⟩ : ∃ n, tot R - tot p = n + 1 := ⟨tot R - tot p - 1, by omega⟩
  have e : ∀ i, i < 4 → tot R - tot (up p i) = n := fun i hi => by rw [tot_up p hi]; omega
  show wy (R 0) (R 1) (R 2) (R 3) (tot R - tot p) (p 0) (p 1) (p 2) (p 3) = 0 + byW R p 0 + byW R p 1 + byW R p 2 + byW R p 3
  rw [hn, wy, Nat.zero_add]
  congr 1
  · congr 1
    · congr 1
      · by_cases k : no R p 0
        · rw [byW_no k]
          unfold no at k
          exact wy_big _ _ _ _ _ (by omega)
        · rw [byW_go k]
          show _ = wy _ _ _ _ (tot R - tot (up p 0)) _ _ _ _
          rw [e 0 (by omega)]
          rfl
      · by_cases k : no R p 1
        · rw [byW_no k]
          unfold no at k
          simp at k
          split
          · exact wy_big _ _ _ _ _ (by omega)
          · rfl
        · rw [byW_go k]
          unfold no at k
          simp at k f0
          rw [if_pos (by omega)]
          show _ = wy _ _ _ _ (tot R - tot (up p 1)) _ _ _ _
          rw [e 1 (by omega)]
          rfl
    · by_cases k : no R p 2
      · rw [byW_no k]
        unfold no at k
        simp at k
        split
        · exact wy_big _ _ _ _ _ (by omega)
        · rfl
      · rw [byW_go k]
        unfold no at k
        simp at k f1
        rw [if_pos (by omega)]
        show _ = wy _ _ _ _ (tot R - tot (up p 2)) _ _ _ _
        rw [e 2 (by omega)]
        rfl
  · by_cases k : no R p 3
    · rw [byW_no k]
      unfold no at k
      simp at k
      split
      · exact wy_big _ _ _ _ _ (by omega)
      · rfl
    · rw [byW_go k]
      unfold no at k
      simp at k f2
      rw [if_pos (by omega)]
      show _ = wy _ _ _ _ (tot R - tot (up p 3)) _ _ _ _
      rw [e 3 (by omega)]
      rfl
theorem W_bd {R p : Nat → Nat} (hR : tot R ≤ 16) : W R p ≤ 4294967296 := by
  unfold W
  refine Nat.le_trans (wy_le _ _ _ _ _) ?_
  exact Nat.le_trans (Nat.pow_le_pow_right (by omega) (by omega : tot R - tot p ≤ 16)) (by decide)
theorem byW_bd {R p : Nat → Nat} (hR : tot R ≤ 16) (i : Nat) : byW R p i ≤ 4294967296 := by
  unfold byW; split
  · omega
  · exact W_bd hR
theorem byS_bd {R p : Nat → Nat} (hR : tot R ≤ 16) : ∀ i, byS R p i ≤ 4294967296 * i
  | 0 => Nat.le_refl _
  | i + 1 => by
    have := byS_bd (p := p) hR i
    have := byW_bd (p := p) hR i
    rw [byS]; omega
/-- the candidate of the next vote of rank k -/
def ci (R p : Nat → Nat) (k : Nat) : Nat := if k < byS R p 1 then 0 else if k < byS R p 2 then 1 else if k < byS R p 3 then 2 else 3
theorem byS_mono (R p : Nat → Nat) : ∀ (i n : Nat), byS R p i ≤ byS R p (i + n)
  | i, 0 => Nat.le_refl _
  | i, n + 1 => by
    have := byS_mono R p i n
    rw [show i + (n + 1) = i + n + 1 from rfl, byS]; omega
theorem ci_lt (R p : Nat → Nat) (k : Nat) : ci R p k < 4 := by unfold ci; (repeat' split) <;> omega
theorem ci_at {R p : Nat → Nat} {k : Nat} (h : k < byS R p 4) : byS R p (ci R p k) ≤ k ∧ k < byS R p (ci R p k + 1) := by
  have z : byS R p 0 = 0 := rfl
  unfold ci
  by_cases h1 : k < byS R p 1
  · rw [if_pos h1]; exact ⟨by omega, h1⟩
  · rw [if_neg h1]
    by_cases h2 : k < byS R p 2
    · rw [if_pos h2]; exact ⟨by omega, h2⟩
    · rw [if_neg h2]
      by_cases h3 : k < byS R p 3
      · rw [if_pos h3]; exact ⟨by omega, h3⟩
      · rw [if_neg h3]; exact ⟨by omega, h⟩
theorem ci_of {R p : Nat → Nat} {k i : Nat} (hi : i < 4) (h1 : byS R p i ≤ k) (h2 : k < byS R p (i + 1)) : ci R p k = i := by
  have m := byS_mono R p
  have z : byS R p 0 = 0 := rfl
  unfold ci
  have : i = 0 ∨ i = 1 ∨ i = 2 ∨ i = 3 := by omega
  rcases this with e | e | e | e <;> subst e
  · rw [if_pos h2]
  · rw [if_neg (by omega), if_pos h2]
  · have a1 : byS R p 1 ≤ byS R p 2 := m 1 1
    rw [if_neg (by omega), if_neg (by omega), if_pos h2]
  · have a1 : byS R p 1 ≤ byS R p 3 := m 1 2
    have a2 : byS R p 2 ≤ byS R p 3 := m 2 1
    rw [if_neg (by omega), if_neg (by omega), if_neg (by omega)]
theorem ci_yes {R p : Nat → Nat} {k : Nat} (h : k < byS R p 4) : ¬ no R p (ci R p k) := fun hn => by
  have h1 := ci_at h
  rw [byS, byW_no hn] at h1
  omega
/-- n votes on, of rank k -/
def uw (R : Nat → Nat) : Nat → (Nat → Nat) → Nat → List Nat
  | 0, _, _ => []
  | n + 1, p, k => ci R p k :: uw R n (up p (ci R p k)) (k - byS R p (ci R p k))
/-- all votes on -/
def ll (R : Nat → Nat) : Nat → (Nat → Nat) → List (List Nat)
  | 0, _ => [[]]
  | n + 1, p => (if no R p 0 then [] else (ll R n (up p 0)).map (List.cons 0)) ++ (if no R p 1 then [] else (ll R n (up p 1)).map (List.cons 1)) ++ (if no R p 2 then [] else (ll R n (up p 2)).map (List.cons 2)) ++ (if no R p 3 then [] else (ll R n (up p 3)).map (List.cons 3))
theorem range_add (a b : Nat) (f : Nat → List Nat) : (List.range (a + b)).map f = (List.range a).map f ++ (List.range b).map (fun j => f (a + j)) := by
  rw [List.range_add, List.map_append, List.map_map]
  rfl
theorem uw_blk {R p : Nat → Nat} (n i : Nat) (hi : i < 4) (hW : ∀ q, Ok R q → tot q + n = tot R → (List.range (W R q)).map (uw R n q) = ll R n q) (h : Ok R p) (ht : tot p + (n + 1) = tot R) :
    (List.range (byW R p i)).map (fun j => uw R (n + 1) p (byS R p i + j)) = if no R p i then [] else (ll R n (up p i)).map (List.cons i) := by
  by_cases k : no R p i
  · rw [if_pos k, byW_no k]; rfl
  · rw [if_neg k, byW_go k, ← hW (up p i) (h.up hi k) (by rw [tot_up p hi]; omega), List.map_map]
    apply List.map_congr_left
    intro j hj
    have hj := List.mem_range.1 hj
    have e : ci R p (byS R p i + j) = i := ci_of hi (by omega) (by rw [byS, byW_go k]; omega)
    show ci R p (byS R p i + j) :: uw R n (up p (ci R p (byS R p i + j))) (byS R p i + j - byS R p (ci R p (byS R p i + j))) = i :: uw R n (up p i) j
    rw [e, Nat.add_sub_cancel_left]
theorem uw_ll {R : Nat → Nat} : ∀ (n : Nat) (p : Nat → Nat), Ok R p → tot p + n = tot R → (List.range (W R p)).map (uw R n p) = ll R n p
  | 0, p, h, ht => by
    rw [W_end (h.same_iff.2 (by omega))]
    rfl
  | n + 1, p, h, ht => by
    have hn : ¬ same R p := fun e => by have := h.same_iff.1 e; omega
    rw [W_eq h hn]
    show (List.range (0 + byW R p 0 + byW R p 1 + byW R p 2 + byW R p 3)).map _ = _
    have hW := fun q (hq : Ok R q) (e : tot q + n = tot R) => uw_ll n q hq e
    rw [range_add, range_add, range_add, Nat.zero_add]
    rw [ll]
    have b0 := uw_blk n 0 (by omega) hW h ht
    have b1 := uw_blk n 1 (by omega) hW h ht
    have b2 := uw_blk n 2 (by omega) hW h ht
    have b3 := uw_blk n 3 (by omega) hW h ht
    rw [← b0, ← b1, ← b2, ← b3]
    have z1 : byS R p 1 = byW R p 0 := by show 0 + byW R p 0 = _; omega
    have z2 : byS R p 2 = byW R p 0 + byW R p 1 := by show 0 + byW R p 0 + byW R p 1 = _; omega
    have z3 : byS R p 3 = byW R p 0 + byW R p 1 + byW R p 2 := by show 0 + byW R p 0 + byW R p 1 + byW R p 2 = _; omega
    have z0 : byS R p 0 = 0 := rfl
    rw [z0, z1, z2, z3]
    simp only [Nat.zero_add]
theorem ll_len {R : Nat → Nat} (n : Nat) (p : Nat → Nat) (h : Ok R p) (ht : tot p + n = tot R) : (ll R n p).length = W R p := by
  rw [← uw_ll n p h ht, List.length_map, List.length_range]
theorem Ok.zero {R : Nat → Nat} : Ok R (fun _ => 0) := ⟨fun _ _ => Nat.zero_le _, fun _ _ => Nat.le_refl _⟩
/-- one step of the votes of rank k -/
theorem step_ok {R p : Nat → Nat} {k : Nat} (h : Ok R p) (hk : k < W R p) (hn : ¬ same R p) :
    k < byS R p 4 ∧ ¬ no R p (ci R p k) ∧ Ok R (up p (ci R p k)) ∧ byS R p (ci R p k) ≤ k ∧ k - byS R p (ci R p k) < W R (up p (ci R p k)) ∧ tot (up p (ci R p k)) = tot p + 1 := by
  have e := W_eq h hn
  have h4 : k < byS R p 4 := by omega
  have hno := ci_yes h4
  have h1 := ci_at h4
  have hlt := ci_lt R p k
  rw [byS, byW_go hno] at h1
  exact ⟨h4, hno, h.up hlt hno, h1.1, by omega, tot_up p hlt⟩
end Go.Proofs.YtmfcknlpbliehaaDoor

/- A slice of ints that came in, or is only read; toIntS, the laws' copy. -/
namespace Go.Proofs.YtmfcknlpbliehaaDoor
open Go.RowKit
set_option linter.unusedVariables false
/-- a slice of ints that came in: nil, or a row of cap numbers of which the first len are its elements -/
def IsInts (w : World) (a : Option Addr) (len cap : Nat) (zs : List Int) : Prop :=
  (a = none ∧ len = 0 ∧ cap = 0 ∧ zs = []) ∨
  ∃ x, a = some x ∧ len ≤ cap ∧ cap ≤ maxLen ∧ zs.length = cap ∧ (∀ i, i < zs.length → w.cell? (x.add i) = some (.int .i64 (zs.getD i 0))) ∧ ∀ n ∈ zs, (Lit.int .i64 n).wf = true
/-- a slice of ints that is only read: its elements are xs -/
structure RInts (w : World) (v : Value) (xs : List Int) : Prop where
  shape : ∃ A c, v = .slice A xs.length c
  room : ∀ A n c, v = .slice A n c → n ≤ c ∧ c ≤ maxLen
  cells : 0 < xs.length → ∃ g o c, v = .slice (some ⟨g, o, none⟩) xs.length c ∧ g < w.heap.size ∧ ∀ j, j < xs.length → w.cell? ⟨g, o + j, none⟩ = some (.int .i64 (xs.getD j 0))
theorem RInts.below {w w' : World} {v : Value} {xs : List Int} (h : RInts w v xs) (hb : Below w.heap.size w w') : RInts w' v xs :=
  ⟨h.shape, h.room, fun hx => by
    obtain ⟨g, o, c, hv, hg, hc⟩ := h.cells hx
    exact ⟨g, o, c, hv, Nat.lt_of_lt_of_le hg hb.size, fun j hj => (hb.cell (p := ⟨g, o + j, none⟩) hg).trans (hc j hj)⟩⟩
theorem RInts.of_row {w : World} {B : Nat} {v : Value} {xs : List Int} (h : IRow w B v xs) : RInts w v xs :=
  ⟨h.shape, fun A n c e => by
    rcases h.2 with ⟨h1, _⟩ | ⟨g, cap, cur, h1, _, _, h2, h3, _⟩
    · rw [h1] at e
      injection e with e1 e2 e3
      subst e2 e3
      exact ⟨Nat.le_refl _, by simp [maxLen]⟩
    · rw [h1] at e
      injection e with e1 e2 e3
      subst e2 e3
      exact ⟨h2, h3⟩, fun hx => by
    obtain ⟨g, c, hv, _, hg⟩ := h.form' rfl hx
    subst hv
    exact ⟨g, 0, c, rfl, hg, fun j hj => by rw [Nat.zero_add]; exact h.cell hj⟩⟩
theorem RInts.of_in {w : World} {a : Option Addr} {len cap : Nat} {zs : List Int} (h : IsInts w a len cap zs) : RInts w (.slice a len cap) (zs.take len) := by
  rcases h with ⟨rfl, rfl, rfl, rfl⟩ | ⟨x, rfl, hl, hm, hz, hcell, _⟩
  · exact ⟨⟨_, _, rfl⟩, fun A n c e => by injection e with e1 e2 e3; subst e2 e3; exact ⟨Nat.le_refl _, by simp [maxLen]⟩, fun h => absurd h (by simp)⟩
  · have hlen : (zs.take len).length = len := by rw [List.length_take]; omega
    refine ⟨⟨some x, cap, by rw [hlen]⟩, fun A n c e => by injection e with e1 e2 e3; subst e2 e3; exact ⟨hl, hm⟩, fun hx => ?_⟩
    rw [hlen] at hx
    obtain ⟨b, off, spot⟩ := x
    have h0 := hcell 0 (by omega)
    have hspot : spot = none := by simpa [Addr.add] using World.cell?_spot h0
    subst hspot
    refine ⟨b, off, cap, by rw [hlen], World.block_lt_of_cell? w _ h0, fun j hj => ?_⟩
    rw [hlen] at hj
    have := hcell j (by omega)
    have e : (⟨b, off, none⟩ : Addr).add j = ⟨b, off + j, none⟩ := by unfold Addr.add; split <;> simp_all
    rw [e] at this
    rw [this, List.getD_eq_getElem?_getD, List.getD_eq_getElem?_getD, List.getElem?_take, if_pos hj]
/-- the first k copied -/
def copied (xs : List Int) (k : Nat) : List Int := xs.take k ++ List.replicate (xs.length - k) 0
theorem copied_length (xs : List Int) (k : Nat) (h : k ≤ xs.length) : (copied xs k).length = xs.length := by simp [copied]; omega
theorem copied_set (xs : List Int) (k : Nat) (h : k < xs.length) : (copied xs k).set k (xs.getD k 0) = copied xs (k + 1) := by
  unfold copied
  rw [List.take_succ_eq_append_getElem h, List.set_append, List.length_take, if_neg (by omega), show k - min k xs.length = 0 by omega,
    show xs.length - k = (xs.length - (k + 1)) + 1 by omega, List.replicate_succ, List.set_cons_zero, List.getD_eq_getElem?_getD, List.getElem?_eq_getElem h, List.append_assoc]
  rfl
theorem copied_full (xs : List Int) : copied xs xs.length = xs := by simp [copied]
set_option maxHeartbeats 800000 in
theorem toIntS_any (v : Value) (xs : List Int) (w : World) (h : RInts w v xs) (hl : xs.length ≤ 1048576) :
    Calls Tryd.prog 23 #[v] w (IntsNew w xs) := by
  obtain ⟨A0, cap, rfl⟩ := h.shape
  have H := Lib.hid h
  clear h
  obtain ⟨i0, hi, hz0, hz1, hz2⟩ := info_parts intInfo
  go_enter Tryd.func23, Tryd.ntmps23
  go_wp2_with (refine wpList_make_full _ rfl (.tmp 6) (.tmp 6) 33 rfl w.heap.size 3 i0 (.int .i64 0) 1 Tryd.underlying33 hi hz0 hz1 .i64 .i64 _ _ xs.length rfl rfl (by omega) (by omega) (by rw [hz2]; omega) (by unfold maxLen; omega) (Nat.le_refl _) ?_; intro w1 hown1 hgrow1)
  have hrow1 : IRow w1 w.heap.size (.slice (some ⟨w.heap.size, 0, none⟩) xs.length xs.length) (copied xs 0) :=
    IRow.of_own hown1 (by simp [copied]) (by rw [madeOne _ rfl]; simp [copied])
  have hb1 : Below w.heap.size w w1 := (Below.refl _ _).grown hgrow1 (Nat.le_refl _) (by simp)
  clear hown1 hgrow1
  go_loopw [4] (fun i wr => ∃ k : Nat, k ≤ xs.length ∧ i = .int .i64 (k : Int) ∧ IRow wr w.heap.size (.slice (some ⟨w.heap.size, 0, none⟩) xs.length xs.length) (copied xs k) ∧ Below w.heap.size w wr) (fun i _ => xs.length - (intOf i).toNat)
  case atStart => exact ⟨0, by omega, rfl, hrow1, hb1⟩
  case round =>
    obtain ⟨k, hk, rfl, hrow, hb⟩ := hrel
    clear hrow1 hb1
    by_cases hlt : k < xs.length
    · obtain ⟨g, o, cc, hv, hg, hcells⟩ := H.out.cells (by omega)
      have hA : A0 = some ⟨g, o, none⟩ := by injection hv
      subst hA
      clear hv
      have e1 : wr.cell? ⟨g, o + k, none⟩ = some (.int .i64 (xs.getD k 0)) := (hb.cell (p := ⟨g, o + k, none⟩) hg).trans (hcells k hlt)
      clear hcells
      have HST := Lib.hid (hrow.set k (xs.getD k 0)).1
      rw [copied_set xs k hlt] at HST
      have e2 := hrow.cell (j := k) (by rw [copied_length _ _ hk]; exact hlt)
      have f2 := hrow.free k
      generalize xs.getD k 0 = x at *
      generalize (copied xs k).getD k 0 = y at *
      go_wp2
      go_roundw
      case rel => exact ⟨k + 1, by omega, by go_num, HST, hb.setCell (Nat.le_refl _) _⟩
      case measure => first | (simp [intOf]; done) | (simp [intOf]; omega)
    · have HK : Hid (k = xs.length) := by unfold Hid; omega
      go_wp2
      go_ret
      rw [HK.out, copied_full] at hrow
      exact ⟨_, rfl, hrow, hb⟩
/-- two rows: the one above, the other below -/
theorem IRow.grown_over {w w' : World} {B B2 : Nat} {v v2 : Value} {xs : List Int} (h : IRow w B v xs) (hg : w.grownBy w' v2.ownBlock) (hv : ∀ k, v.ownBlock = some k → B2 ≤ k) (hv2 : ∀ k, v2.ownBlock = some k → k < B2) : IRow w' B v xs :=
  World.ownsRow.kept h hg (by
    cases e : v.ownBlock with
    | none => exact .inl rfl
    | some k =>
      right
      intro e2
      have a := hv k e
      have b := hv2 k e2.symm
      omega)
end Go.Proofs.YtmfcknlpbliehaaDoor
