/- Pack 7 of what FnRotationsGood needs: CycMath2, Lists. -/
import Derived.Test.YtmfcknlpbliehabKFnRotationsGood6
import Derived.Deep.QuietTactic
import Derived.BigQuiet
/- The cycle lemma for degrees and for paths. -/
namespace Go.Proofs.Ytmfcknlpbliehab
open Go.RowKit
set_option linter.unusedVariables false
theorem goods_cnt (xs : List Int) : ∀ k, (goods xs k).length = cntB (fun i => forB (rot xs i)) k
  | 0 => rfl
  | k + 1 => by
    rw [goods, cntB, ← goods_cnt xs k]
    split <;> simp
theorem goods_many {xs : List Int} (h : degB xs = true) : ((goods xs xs.length).length : Int) = if exc xs < 0 then 0 else exc xs := by
  have hd := degB_of h
  by_cases he : 1 ≤ exc xs
  · rw [if_neg (by omega), goods_cnt, cntB_congr xs.length (fun j hj => forB_low_iff xs he j hj)]
    refine cyc (dbl xs) xs.length (xs.length - 1) (exc xs) (by omega) (by omega) (by omega) (fun j hj => dbl_step xs (fun x hx => ?_) j hj) (fun j hj => dbl_per xs j hj)
    obtain ⟨i, hi, rfl⟩ := List.mem_iff_getElem.1 hx
    have := (hd.2 i hi).1
    rw [List.getD_eq_getElem?_getD, List.getElem?_eq_getElem hi] at this
    exact this
  · have h0 : ∀ k, k ≤ xs.length → cntB (fun i => forB (rot xs i)) k = 0 := by
      intro k
      induction k with
      | zero => intro _; rfl
      | succ k ih =>
        intro hk
        rw [cntB, ih (by omega), forB_low (by rw [exc_rot xs k (by omega)]; omega)]
        rfl
    rw [goods_cnt, h0 _ (Nat.le_refl _)]
    split <;> omega
theorem goods_mem (xs : List Int) (k : Nat) : ∀ m, (k : Int) ∈ goods xs m ↔ k < m ∧ forB (rot xs k) = true
  | 0 => by simp [goods]
  | m + 1 => by
    rw [goods]
    have ih := goods_mem xs k m
    by_cases hf : forB (rot xs m) = true
    · rw [if_pos hf, List.mem_append, ih, List.mem_singleton]
      constructor
      · rintro (h | h)
        · exact ⟨by omega, h.2⟩
        · have : k = m := by omega
          subst this; exact ⟨by omega, hf⟩
      · rintro ⟨h1, h2⟩
        by_cases e : k = m
        · exact .inr (by rw [e])
        · exact .inl ⟨by omega, h2⟩
    · rw [if_neg hf, ih]
      constructor
      · rintro ⟨h1, h2⟩; exact ⟨by omega, h2⟩
      · rintro ⟨h1, h2⟩
        refine ⟨?_, h2⟩
        by_cases e : k = m
        · subst e; exact absurd h2 hf
        · omega
-- paths
def gml (l : List UInt8) (k : Int) (j : Nat) : Int := ((l.take j).map fun c => stepK k (c.toNat : Int)).sum
def dmg (s : ByteArray) (k : Int) (j : Nat) : Int := gml (s.data.toList ++ s.data.toList) k j
theorem gml_app (l r : List UInt8) (k : Int) (j : Nat) : gml (l ++ r) k (l.length + j) = gml l k l.length + gml r k j := by
  unfold gml
  rw [List.take_append, List.take_of_length_le (by omega), List.map_append, List.sum_append, show l.length + j - l.length = j by omega, List.take_of_length_le (Nat.le_refl _)]
theorem gml_rot (l : List UInt8) (k : Int) (i j : Nat) (hi : i ≤ l.length) (hj : j ≤ l.length) : gml (l.drop i ++ l.take i) k j = gml (l ++ l) k (i + j) - gml (l ++ l) k i := by
  unfold gml
  have h1 : (l ++ l).take (i + j) = (l ++ l).take i ++ ((l ++ l).drop i).take j := by rw [List.take_add]
  have h2 : ((l ++ l).drop i).take j = (l.drop i ++ l.take i).take j := by
    rw [List.drop_append, show i - l.length = 0 by omega, List.drop_zero, List.take_append, List.take_append, List.length_drop, List.take_take]
    congr 2
    omega
  rw [h1, h2, List.map_append, List.sum_append]
  omega
theorem data_len (s : ByteArray) : s.data.toList.length = s.size := by simp
theorem mg_rot (s : ByteArray) (k : Int) (i j : Nat) (hi : i ≤ s.size) (hj : j ≤ s.size) : mg (rotS s i) k j = dmg s k (i + j) - dmg s k i := by
  have := gml_rot s.data.toList k i j (by rw [data_len]; exact hi) (by rw [data_len]; exact hj)
  unfold dmg
  rw [← this]
  unfold mg gml
  rw [rotS_list]
  rfl
theorem mg_gml (s : ByteArray) (k : Int) (j : Nat) (hj : j ≤ s.size) : dmg s k j = mg s k j := by
  unfold dmg mg gml
  rw [List.take_append_of_le_length (by rw [data_len]; exact hj)]
theorem dmg_per (s : ByteArray) (k : Int) (j : Nat) (hj : j ≤ s.size) : dmg s k (j + s.size) = mg s k s.size + dmg s k j := by
  have := gml_app s.data.toList s.data.toList k j
  rw [data_len] at this
  rw [Nat.add_comm, mg_gml s k j hj]
  unfold dmg
  rw [this]
  rfl
theorem dmg_step (s : ByteArray) (k : Int) (hk : 0 ≤ k) (j : Nat) (hj : j < 2 * s.size) : dmg s k (j + 1) ≤ dmg s k j + 1 := by
  unfold dmg gml
  have hl : j < (s.data.toList ++ s.data.toList).length := by rw [List.length_append, data_len]; omega
  rw [List.take_succ_eq_append_getElem hl, List.map_append, List.sum_append, List.map_cons, List.map_nil, List.sum_cons, List.sum_nil]
  unfold stepK
  split <;> omega
theorem okTo_iff (f : Nat → Int) : ∀ j, okTo f j = true ↔ ∀ i, i < j → 0 < f (i + 1)
  | 0 => by rw [okTo_0]; simp
  | j + 1 => by
    rw [okTo_succ, Bool.and_eq_true, okTo_iff f j, decide_eq_true_iff]
    constructor
    · rintro ⟨h1, h2⟩ i hi
      by_cases e : i = j
      · subst e; exact h2
      · exact h1 i (by omega)
    · intro h
      exact ⟨fun i hi => h i (by omega), h j (by omega)⟩
theorem rgB_low (s : ByteArray) (k : Int) (hk : 0 ≤ k) (he : 1 ≤ mg s k s.size) (i : Nat) (hi : i < s.size) : rgB s k i = lowB (fun j => dmg s k (2 * s.size - j)) (s.size + (s.size - 1 - i)) := by
  rw [Bool.eq_iff_iff, lowB_iff]
  show okTo (mg (rotS s i) k) s.size = true ↔ _
  rw [okTo_iff, show s.size + (s.size - 1 - i) + 1 = 2 * s.size - i by omega]
  show _ ↔ ∀ j, j ≤ _ → dmg s k (2 * s.size - (2 * s.size - i)) < dmg s k (2 * s.size - j)
  rw [show 2 * s.size - (2 * s.size - i) = i by omega]
  have hd := fun j hj => mg_rot s k i j (by omega) hj
  have hp := fun j hj => dmg_per s k j hj
  constructor
  · intro h j hj
    by_cases hm : 2 * s.size - j ≤ i + s.size
    · have h1 := h (2 * s.size - j - i - 1) (by omega)
      rw [show 2 * s.size - j - i - 1 + 1 = 2 * s.size - j - i by omega, hd _ (by omega), show i + (2 * s.size - j - i) = 2 * s.size - j by omega] at h1
      omega
    · have h1 := h (2 * s.size - j - s.size - i - 1) (by omega)
      rw [show 2 * s.size - j - s.size - i - 1 + 1 = 2 * s.size - j - s.size - i by omega, hd _ (by omega), show i + (2 * s.size - j - s.size - i) = 2 * s.size - j - s.size by omega] at h1
      have h2 := hp (2 * s.size - j - s.size) (by omega)
      rw [show 2 * s.size - j - s.size + s.size = 2 * s.size - j by omega] at h2
      omega
  · intro h j hj
    rw [hd _ (by omega)]
    have := h (2 * s.size - (i + (j + 1))) (by omega)
    rw [show 2 * s.size - (2 * s.size - (i + (j + 1))) = i + (j + 1) by omega] at this
    omega
theorem rgs_cnt (s : ByteArray) (k : Int) : ∀ i, (rgs s k i).length = cntB (rgB s k) i
  | 0 => rfl
  | i + 1 => by
    rw [rgs, cntB, ← rgs_cnt s k i]
    split <;> simp
theorem rgs_many (s : ByteArray) (k : Int) (hk : 0 ≤ k) : ((rgs s k s.size).length : Int) = if mg s k s.size < 0 then 0 else mg s k s.size := by
  by_cases he : 1 ≤ mg s k s.size
  · rw [if_neg (by omega), rgs_cnt, cntB_congr s.size (fun j hj => rgB_low s k hk he j hj)]
    have hr := cntB_rev s.size (fun t => lowB (fun j => dmg s k (2 * s.size - j)) (s.size + t))
    rw [hr]
    refine cyc (fun j => dmg s k (2 * s.size - j)) s.size s.size (mg s k s.size) (by omega) (by omega) (by omega) (fun j hj => ?_) (fun j hj => ?_)
    · show dmg s k (2 * s.size - j) - 1 ≤ dmg s k (2 * s.size - (j + 1))
      have := dmg_step s k hk (2 * s.size - (j + 1)) (by omega)
      rw [show 2 * s.size - (j + 1) + 1 = 2 * s.size - j by omega] at this
      omega
    · show dmg s k (2 * s.size - (j + s.size)) = dmg s k (2 * s.size - j) - mg s k s.size
      have := dmg_per s k (2 * s.size - (j + s.size)) (by omega)
      rw [show 2 * s.size - (j + s.size) + s.size = 2 * s.size - j by omega] at this
      omega
  · have h0 : ∀ m, m ≤ s.size → cntB (rgB s k) m = 0 := by
      intro m
      induction m with
      | zero => intro _; rfl
      | succ m ih =>
        intro hm
        have hb : rgB s k m = false := by
          rw [Bool.eq_false_iff]
          intro hh
          have h1 := (okTo_iff (mg (rotS s m) k) s.size).1 hh (s.size - 1) (by omega)
          rw [show s.size - 1 + 1 = s.size by omega, mg_rot s k m s.size (by omega) (Nat.le_refl _), dmg_per s k m (by omega)] at h1
          omega
        rw [cntB, ih (by omega), hb]
        rfl
    rw [rgs_cnt, h0 _ (Nat.le_refl _)]
    split <;> omega
/-- what stands in the list of good rotations -/
theorem rgs_at (s : ByteArray) (k : Int) : ∀ m j, j < (rgs s k m).length → ∃ i : Nat, (rgs s k m).getD j 0 = (i : Int) ∧ i < m ∧ rgB s k i = true ∧ (∀ j', j' < j → (rgs s k m).getD j' 0 < (i : Int))
  | 0, j, h => by simp [rgs] at h
  | m + 1, j, h => by
    rw [rgs] at h ⊢
    by_cases hb : rgB s k m = true
    · rw [if_pos hb] at h ⊢
      rw [List.length_append] at h
      simp only [List.length_cons, List.length_nil] at h
      by_cases e : j < (rgs s k m).length
      · obtain ⟨i, h1, h2, h3, h4⟩ := rgs_at s k m j e
        have hg : ∀ q, q < (rgs s k m).length → (rgs s k m ++ [(m : Int)]).getD q 0 = (rgs s k m).getD q 0 := fun q hq => by
          rw [List.getD_eq_getElem?_getD, List.getD_eq_getElem?_getD, List.getElem?_append_left hq]
        exact ⟨i, by rw [hg _ e]; exact h1, by omega, h3, fun j' hj' => by rw [hg _ (by omega)]; exact h4 j' hj'⟩
      · obtain rfl : j = (rgs s k m).length := by omega
        refine ⟨m, by rw [List.getD_eq_getElem?_getD, List.getElem?_append_right (Nat.le_refl _), Nat.sub_self]; rfl, by omega, hb, fun j' hj' => ?_⟩
        obtain ⟨i, h1, h2, h3, h4⟩ := rgs_at s k m j' hj'
        rw [List.getD_eq_getElem?_getD, List.getElem?_append_left hj', ← List.getD_eq_getElem?_getD, h1]
        omega
    · rw [if_neg hb] at h ⊢
      obtain ⟨i, h1, h2, h3, h4⟩ := rgs_at s k m j h
      exact ⟨i, h1, by omega, h3, h4⟩
theorem rgs_up (s : ByteArray) (k : Int) (hk : 0 ≤ k) (i : Nat) (hi : i < s.size) (h : rgB s k i = true) : stepK k (s[i].toNat : Int) = 1 := by
  have h1 := (okTo_iff (mg (rotS s i) k) s.size).1 h 0 (by omega)
  rw [mg_rot s k i (0 + 1) (by omega) (by omega)] at h1
  have h2 : dmg s k (i + (0 + 1)) = dmg s k i + stepK k (s[i].toNat : Int) := by
    rw [mg_gml s k _ (by omega), mg_gml s k _ (by omega)]
    exact mg_succ s k i hi
  unfold stepK at *
  split at h2 <;> simp_all <;> omega
end Go.Proofs.Ytmfcknlpbliehab

/- eqIntS, markIntS, heldIntS: the laws' own helpers on slices of ints. -/
namespace Go.Proofs.Ytmfcknlpbliehab
open Go.RowKit

/-- the numbers m, m+1, .. -/
def marks (m : Int) (n : Nat) : List Int := (List.range n).map fun j => m + (j : Nat)
theorem marks_length (m : Int) (n : Nat) : (marks m n).length = n := by simp [marks]
theorem marks_get (m : Int) (n k : Nat) (h : k < n) : (marks m n).getD k 0 = m + k := by
  unfold marks; rw [List.getD_eq_getElem?_getD, List.getElem?_map, List.getElem?_range h]; rfl
/-- the first k are marked -/
def Marked (ys : List Int) (m : Int) (n k : Nat) : Prop := ys.length = n ∧ ∀ j, j < k → ys.getD j 0 = m + (j : Nat)
theorem Marked.zero {ys : List Int} {n : Nat} (m : Int) (h : ys.length = n) : Marked ys m n 0 := ⟨h, fun _ h => absurd h (by omega)⟩
theorem Marked.succ {ys : List Int} {m : Int} {n k : Nat} (h : Marked ys m n k) (hk : k < n) : Marked (ys.set k (m + (k : Nat))) m n (k + 1) := by
  refine ⟨by rw [List.length_set]; exact h.1, fun j hj => ?_⟩
  rw [List.getD_eq_getElem?_getD, List.getElem?_set]
  by_cases e : k = j
  · subst e; rw [if_pos rfl, if_pos (by rw [h.1]; exact hk)]; rfl
  · rw [if_neg e, ← List.getD_eq_getElem?_getD]; exact h.2 j (by omega)
theorem Marked.full {ys : List Int} {m : Int} {n k : Nat} (h : Marked ys m n k) (hk : k = n) : ys = marks m n := by
  subst hk
  apply List.ext_getElem
  · rw [h.1, marks_length]
  · intro j h1 h2
    have a := h.2 j (by rw [h.1] at h1; exact h1)
    have b := marks_get m k j (by rw [h.1] at h1; exact h1)
    rw [List.getD_eq_getElem?_getD, List.getElem?_eq_getElem h1] at a
    rw [List.getD_eq_getElem?_getD, List.getElem?_eq_getElem h2] at b
    simp at a b
    rw [a, b]

theorem grown_trans' {a b c : World} {r : Option Nat} (h : a.grownBy b r) (k : b.grownBy c r) : a.grownBy c r :=
  ⟨k.os.trans h.os, k.tape.trans h.tape, k.output.trans h.output, Nat.le_trans h.size k.size, fun i hi hn => (k.block i (Nat.lt_of_lt_of_le hi h.size) hn).trans (h.block i hi hn)⟩
theorem grown_refl' (w : World) (r : Option Nat) : w.grownBy w r := ⟨rfl, rfl, rfl, Nat.le_refl _, fun _ _ _ => rfl⟩

end Go.Proofs.Ytmfcknlpbliehab
