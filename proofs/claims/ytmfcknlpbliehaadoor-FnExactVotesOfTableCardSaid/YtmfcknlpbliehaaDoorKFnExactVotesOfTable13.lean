/- Pack 13 of what FnExactVotesOfTable needs: TaMath, VotM. -/
import Derived.Test.YtmfcknlpbliehaaDoorKFnExactVotesOfTable12
/- Tables of votes, columns, votes read by columns: plain numbers. -/
namespace Go.Proofs.YtmfcknlpbliehaaDoor
open Go.RowKit
set_option linter.unusedVariables false
/-- the numbers of the votes for i among the first k -/
def tbRow (s : ByteArray) (i : Nat) : Nat → List Int
  | 0 => []
  | k + 1 => if cd s k = i then tbRow s i k ++ [(k : Int) + 1] else tbRow s i k
def tbS (s : ByteArray) (k : Nat) : List (List Int) := [tbRow s 0 k, tbRow s 1 k, tbRow s 2 k, tbRow s 3 k]
theorem tbRow_len (s : ByteArray) (i : Nat) : ∀ k, (tbRow s i k).length = vc s i k
  | 0 => rfl
  | k + 1 => by
    rw [tbRow, vc, ← tbRow_len s i k]
    split
    · rw [List.length_append]; rfl
    · rfl
theorem tbS_len (s : ByteArray) (k : Nat) : (tbS s k).length = 4 := rfl
theorem tbS_zero (s : ByteArray) : tbS s 0 = List.replicate 4 [] := rfl
theorem tbS_get (s : ByteArray) (k c : Nat) (h : c < 4) : (tbS s k).getD c [] = tbRow s c k := by
  have : c = 0 ∨ c = 1 ∨ c = 2 ∨ c = 3 := by omega
  rcases this with e | e | e | e <;> subst e <;> rfl
theorem tbS_set (s : ByteArray) (k : Nat) (h : cd s k < 4) : (tbS s k).set (cd s k) (tbRow s (cd s k) k ++ [(k : Int) + 1]) = tbS s (k + 1) := by
  unfold tbS
  have : cd s k = 0 ∨ cd s k = 1 ∨ cd s k = 2 ∨ cd s k = 3 := by omega
  rcases this with e | e | e | e <;> simp [tbRow, e]
theorem tbS_size (s : ByteArray) (h : votB s = true) : (tbS s s.size).flatten.length = s.size := by
  have := vcS h (Nat.le_refl _)
  simp [tbS, tbRow_len]
  omega
/-- votes read by columns -/
def cvTo (s : ByteArray) : Nat → List UInt8
  | 0 => []
  | k + 1 => cvTo s k ++ [UInt8.ofNat (97 + vc s (cd s k) k)]
theorem cvTo_len (s : ByteArray) : ∀ k, (cvTo s k).length = k
  | 0 => rfl
  | k + 1 => by rw [cvTo, List.length_append, cvTo_len s k]; rfl
def colB (s : ByteArray) : Bool := oB s && decide (vc s 0 s.size ≤ 4)
theorem vc_mono2 (s : ByteArray) (c : Nat) {j : Nat} : ∀ k, j ≤ k → vc s c j ≤ vc s c k := by
  intro k
  induction k with
  | zero => intro h; rw [show j = 0 by omega]; omega
  | succ k ih =>
    intro h
    by_cases e : j = k + 1
    · rw [e]; omega
    · exact Nat.le_trans (ih (by omega)) (vc_mono s c k)
theorem oB_of {s : ByteArray} (h : oB s = true) : votB s = true ∧ foTo s s.size = 0 := by
  unfold oB at h; rw [Bool.and_eq_true, decide_eq_true_iff] at h; exact h
theorem oB_fall {s : ByteArray} (h : oB s = true) {k : Nat} (hk : k ≤ s.size) : vc s 1 k ≤ vc s 0 k ∧ vc s 2 k ≤ vc s 1 k ∧ vc s 3 k ≤ vc s 2 k :=
  (faB_iff s k).1 (fo_fall (fo_back (oB_of h).2 k hk))
theorem col_lt {s : ByteArray} (h : colB s = true) {k : Nat} (hk : k < s.size) : vc s (cd s k) k < 4 := by
  unfold colB at h
  rw [Bool.and_eq_true, decide_eq_true_iff] at h
  have hv := (oB_of h.1).1
  have hf := oB_fall h.1 (k := k + 1) (by omega)
  have hc := votB_lt hv k hk
  have hm := vc_mono2 s 0 (j := k + 1) s.size (by omega)
  have hh := vc_hit (s := s) (c := cd s k) (k := k) rfl
  have : cd s k = 0 ∨ cd s k = 1 ∨ cd s k = 2 ∨ cd s k = 3 := by omega
  rcases this with e | e | e | e <;> rw [e] at hh ⊢ <;> omega
/-- columns while the i-th number is read up to m -/
def colS (xs : List Int) (i m : Nat) : List Int := (List.range 4).map fun j : Nat => ((laN (j : Int) (xs.take i) : Nat) : Int) + if j < m then 1 else 0
theorem colS_len (xs : List Int) (i m : Nat) : (colS xs i m).length = 4 := by simp [colS]
theorem colS_get (xs : List Int) (i m c : Nat) (h : c < 4) : (colS xs i m).getD c 0 = ((laN (c : Int) (xs.take i) : Nat) : Int) + if c < m then 1 else 0 := by
  unfold colS
  rw [List.getD_eq_getElem?_getD, List.getElem?_map, List.getElem?_range h]
  rfl
theorem colS_set (xs : List Int) (i m : Nat) (h : m < 4) : (colS xs i m).set m ((colS xs i m).getD m 0 + 1) = colS xs i (m + 1) := by
  rw [colS_get xs i m m h, if_neg (by omega)]
  apply List.ext_getElem
  · simp [colS]
  · intro j h1 h2
    simp [colS] at h2
    rw [List.getElem_set]
    simp only [colS, List.getElem_map, List.getElem_range]
    by_cases e : m = j
    · subst e; rw [if_pos rfl, if_pos (by omega)]; omega
    · rw [if_neg e]
      by_cases e2 : j < m
      · rw [if_pos e2, if_pos (by omega)]
      · rw [if_neg e2, if_neg (by omega)]
theorem colS_next (xs : List Int) (i m : Nat) (hi : i < xs.length) (e : xs.getD i 0 = (m : Int)) : colS xs (i + 1) 0 = colS xs i m := by
  apply List.ext_getElem
  · simp [colS]
  · intro j h1 h2
    simp only [colS, List.getElem_map, List.getElem_range]
    rw [laN_take _ _ _ hi, e]
    have e0 : (if j < 0 then (1 : Int) else 0) = 0 := if_neg (by omega)
    rw [e0]
    by_cases q : j < m
    · rw [if_pos (show (j : Int) < (m : Int) by omega), if_pos q]; omega
    · rw [if_neg (show ¬ (j : Int) < (m : Int) by omega), if_neg q]; omega
theorem colS_zero (xs : List Int) : colS xs 0 0 = List.replicate 4 0 := by simp [colS, laN]; rfl
def clOk (xs : List Int) : Bool := resB xs && decide (xs.getD 0 0 ≤ 4)
end Go.Proofs.YtmfcknlpbliehaaDoor

/- Votes read back from their table: what the model and what the program write, letter by letter. -/
namespace Go.Proofs.YtmfcknlpbliehaaDoor
open Go.RowKit
set_option linter.unusedVariables false
def ltr (i : Nat) : UInt8 := UInt8.ofNat (97 + i)
theorem ltr_nat {i : Nat} (h : i < 4) : (ltr i).toNat = 97 + i := by
  have : i = 0 ∨ i = 1 ∨ i = 2 ∨ i = 3 := by omega
  rcases this with e | e | e | e <;> subst e <;> rfl
/-- one number of the model's row i -/
def mStep (n i : Nat) (q : Int × List UInt8) (x : Int) : Option (Int × List UInt8) :=
  if 1 ≤ x ∧ x ≤ n ∧ q.2.getD (x.toNat - 1) 0 = 0 ∧ q.1 < x then some (x, q.2.set (x.toNat - 1) (ltr i)) else none
def mRow (n i : Nat) : Int × List UInt8 → List Int → Option (Int × List UInt8)
  | q, [] => some q
  | q, x :: xs => (mStep n i q x).bind fun q' => mRow n i q' xs
/-- one number of the program's row i -/
def pStep (n i : Nat) (O : List UInt8) (x : Int) : Option (List UInt8) :=
  if 1 ≤ x ∧ x ≤ n then some (O.set (x.toNat - 1) (ltr i)) else none
def pRow (n i : Nat) : List UInt8 → List Int → Option (List UInt8)
  | O, [] => some O
  | O, x :: xs => (pStep n i O x).bind fun O' => pRow n i O' xs
def mRows (n : Nat) : Nat → List UInt8 → List (List Int) → Option (List UInt8)
  | _, O, [] => some O
  | i, O, r :: rs => (mRow n i (0, O) r).bind fun q => mRows n (i + 1) q.2 rs
def pRows (n : Nat) : Nat → List UInt8 → List (List Int) → Option (List UInt8)
  | _, O, [] => some O
  | i, O, r :: rs => (pRow n i O r).bind fun O' => pRows n (i + 1) O' rs
theorem mRow_app (n i : Nat) : ∀ (xs : List Int) (q : Int × List UInt8) (y : Int), mRow n i q (xs ++ [y]) = (mRow n i q xs).bind fun q' => mStep n i q' y
  | [], q, y => by
    show (mStep n i q y).bind (fun q' => some q') = mStep n i q y
    cases mStep n i q y <;> rfl
  | x :: xs, q, y => by
    show (mStep n i q x).bind (fun q' => mRow n i q' (xs ++ [y])) = ((mStep n i q x).bind fun q' => mRow n i q' xs).bind _
    cases h : mStep n i q x with
    | none => rfl
    | some q' => exact mRow_app n i xs q' y
theorem pRow_app (n i : Nat) : ∀ (xs : List Int) (O : List UInt8) (y : Int), pRow n i O (xs ++ [y]) = (pRow n i O xs).bind fun O' => pStep n i O' y
  | [], O, y => by
    show (pStep n i O y).bind (fun q' => some q') = pStep n i O y
    cases pStep n i O y <;> rfl
  | x :: xs, O, y => by
    show (pStep n i O x).bind (fun q' => pRow n i q' (xs ++ [y])) = ((pStep n i O x).bind fun q' => pRow n i q' xs).bind _
    cases h : pStep n i O x with
    | none => rfl
    | some q' => exact pRow_app n i xs q' y
-- COMPLETENESS: the table of votes t
/-- what is written when the rows before i and the numbers up to k of row i are done -/
def vis (t : ByteArray) (i k : Nat) : List UInt8 := (List.range t.size).map fun p => if cd t p < i ∨ (cd t p = i ∧ p < k) then t.data.toList.getD p 0 else 0
theorem vis_len (t : ByteArray) (i k : Nat) : (vis t i k).length = t.size := by simp [vis]
theorem vis_get (t : ByteArray) (i k : Nat) {p : Nat} (h : p < t.size) : (vis t i k).getD p 0 = if cd t p < i ∨ (cd t p = i ∧ p < k) then t.data.toList.getD p 0 else 0 := by
  unfold vis
  rw [List.getD_eq_getElem?_getD, List.getElem?_map, List.getElem?_range h]
  rfl
theorem list_ext8 {a b : List UInt8} (hl : a.length = b.length) (h : ∀ p, p < a.length → a.getD p 0 = b.getD p 0) : a = b := by
  apply List.ext_getElem hl
  intro p h1 h2
  have := h p h1
  rw [List.getD_eq_getElem?_getD, List.getD_eq_getElem?_getD, List.getElem?_eq_getElem h1, List.getElem?_eq_getElem h2] at this
  exact this
theorem getD_set8 (O : List UInt8) (j : Nat) (c : UInt8) {p : Nat} (h : p < O.length) : (O.set j c).getD p 0 = if p = j then c else O.getD p 0 := by
  rw [List.getD_eq_getElem?_getD, List.getD_eq_getElem?_getD, List.getElem?_set]
  by_cases e : j = p
  · subst e; rw [if_pos rfl, if_pos h, if_pos rfl]; rfl
  · rw [if_neg e, if_neg (fun x => e x.symm)]
theorem let_cd {t : ByteArray} (hv : votB t = true) {p : Nat} (h : p < t.size) : t.data.toList.getD p 0 = ltr (cd t p) ∧ t.data.toList.getD p 0 ≠ 0 := by
  have h1 := cd_at hv h
  have h2 := getD_byte t p h
  have h3 : t.data.toList.getD p 0 = ltr (cd t p) := by
    apply UInt8.toNat.inj
    rw [ltr_nat h1.2, h2]
    omega
  refine ⟨h3, fun e => ?_⟩
  have h4 := ltr_nat h1.2
  rw [← h3, e] at h4
  simp at h4
  omega
theorem vis_step {t : ByteArray} (hv : votB t = true) {i k : Nat} (hk : k < t.size) (hc : cd t k = i) : (vis t i k).set k (ltr i) = vis t i (k + 1) := by
  apply list_ext8
  · rw [List.length_set, vis_len, vis_len]
  · intro p hp
    rw [List.length_set, vis_len] at hp
    rw [getD_set8 _ _ _ (by rw [vis_len]; exact hp), vis_get t i k hp, vis_get t i (k + 1) hp]
    by_cases e : p = k
    · subst e
      rw [if_pos rfl, if_pos (.inr ⟨hc, by omega⟩), (let_cd hv hp).1, hc]
    · rw [if_neg e]
      have : (cd t p < i ∨ (cd t p = i ∧ p < k)) ↔ (cd t p < i ∨ (cd t p = i ∧ p < k + 1)) := by omega
      simp only [this]
theorem vis_stay {t : ByteArray} {i k : Nat} (hc : ¬ cd t k = i) : vis t i k = vis t i (k + 1) := by
  apply list_ext8
  · rw [vis_len, vis_len]
  · intro p hp
    rw [vis_len] at hp
    rw [vis_get t i k hp, vis_get t i (k + 1) hp]
    have : (cd t p < i ∨ (cd t p = i ∧ p < k)) ↔ (cd t p < i ∨ (cd t p = i ∧ p < k + 1)) := by
      by_cases e : p = k
      · subst e; omega
      · omega
    simp only [this]
theorem mRow_tb {t : ByteArray} (hv : votB t = true) (i : Nat) : ∀ k, k ≤ t.size → ∃ z : Int, z ≤ k ∧ mRow t.size i (0, vis t i 0) (tbRow t i k) = some (z, vis t i k)
  | 0, _ => ⟨0, by omega, rfl⟩
  | k + 1, hk => by
    obtain ⟨z, hz, h⟩ := mRow_tb hv i k (by omega)
    rw [tbRow]
    by_cases hc : cd t k = i
    · rw [if_pos hc, mRow_app, h]
      refine ⟨(k : Int) + 1, by omega, ?_⟩
      show mStep t.size i (z, vis t i k) ((k : Int) + 1) = _
      unfold mStep
      have e : ((k : Int) + 1).toNat - 1 = k := by omega
      rw [e, if_pos ⟨by omega, by omega, by rw [vis_get t i k (by omega), if_neg (by omega)], by omega⟩, vis_step hv (by omega) hc]
    · rw [if_neg hc, ← vis_stay hc]
      exact ⟨z, by omega, h⟩
theorem pRow_tb {t : ByteArray} (hv : votB t = true) (i : Nat) : ∀ k, k ≤ t.size → pRow t.size i (vis t i 0) (tbRow t i k) = some (vis t i k)
  | 0, _ => rfl
  | k + 1, hk => by
    have h := pRow_tb hv i k (by omega)
    rw [tbRow]
    by_cases hc : cd t k = i
    · rw [if_pos hc, pRow_app, h]
      show pStep t.size i (vis t i k) ((k : Int) + 1) = _
      unfold pStep
      have e : ((k : Int) + 1).toNat - 1 = k := by omega
      rw [e, if_pos ⟨by omega, by omega⟩, vis_step hv (by omega) hc]
    · rw [if_neg hc, ← vis_stay hc]
      exact h
theorem vis_next (t : ByteArray) (i : Nat) : vis t i t.size = vis t (i + 1) 0 := by
  apply list_ext8
  · rw [vis_len, vis_len]
  · intro p hp
    rw [vis_len] at hp
    rw [vis_get t _ _ hp, vis_get t _ _ hp]
    have : (cd t p < i ∨ (cd t p = i ∧ p < t.size)) ↔ (cd t p < i + 1 ∨ (cd t p = i + 1 ∧ p < 0)) := by omega
    simp only [this]
theorem vis_zero (t : ByteArray) : vis t 0 0 = List.replicate t.size 0 := by
  apply list_ext8
  · rw [vis_len, List.length_replicate]
  · intro p hp
    rw [vis_len] at hp
    rw [vis_get t _ _ hp, if_neg (by omega), List.getD_eq_getElem?_getD, List.getElem?_replicate, if_pos hp]
    rfl
theorem vis_all {t : ByteArray} (hv : votB t = true) : vis t 4 0 = t.data.toList := by
  have hl : t.data.toList.length = t.size := by simp
  apply list_ext8
  · rw [vis_len, hl]
  · intro p hp
    rw [vis_len] at hp
    rw [vis_get t _ _ hp, if_pos (.inl (cd_at hv hp).2)]
theorem mRows_tb {t : ByteArray} (hv : votB t = true) : mRows t.size 0 (List.replicate t.size 0) (tbS t t.size) = some t.data.toList := by
  have h := fun i => mRow_tb hv i t.size (Nat.le_refl _)
  obtain ⟨z0, _, h0⟩ := h 0
  obtain ⟨z1, _, h1⟩ := h 1
  obtain ⟨z2, _, h2⟩ := h 2
  obtain ⟨z3, _, h3⟩ := h 3
  rw [← vis_zero]
  simp only [tbS, mRows, h0, Option.bind_some, vis_next, Nat.zero_add, h1, Nat.reduceAdd, h2, h3, vis_all hv]
theorem pRows_tb {t : ByteArray} (hv : votB t = true) : pRows t.size 0 (List.replicate t.size 0) (tbS t t.size) = some t.data.toList := by
  have h := fun i => pRow_tb hv i t.size (Nat.le_refl _)
  rw [← vis_zero]
  simp only [tbS, pRows, h, Option.bind_some, vis_next, Nat.zero_add, Nat.reduceAdd, vis_all hv]
-- SOUNDNESS: what the model lets pass is a table
/-- the numbers of the letters r among the first k -/
def posL (O : List UInt8) (r : Nat) : Nat → List Int
  | 0 => []
  | k + 1 => if O.getD k 0 = ltr r then posL O r k ++ [(k : Int) + 1] else posL O r k
theorem posL_congr {O O' : List UInt8} {r : Nat} : ∀ k, (∀ p, p < k → (O.getD p 0 = ltr r ↔ O'.getD p 0 = ltr r)) → posL O r k = posL O' r k
  | 0, _ => rfl
  | k + 1, h => by
    rw [posL, posL, posL_congr k (fun p hp => h p (by omega))]
    have := h k (by omega)
    by_cases e : O.getD k 0 = ltr r
    · rw [if_pos e, if_pos (this.1 e)]
    · rw [if_neg e, if_neg (fun x => e (this.2 x))]
theorem posL_none {O : List UInt8} {r a : Nat} : ∀ k, a ≤ k → (∀ p, a ≤ p → p < k → O.getD p 0 ≠ ltr r) → posL O r k = posL O r a
  | 0, h, _ => by obtain rfl : a = 0 := by omega
                  rfl
  | k + 1, h, h2 => by
    by_cases e : a = k + 1
    · rw [e]
    · rw [posL, if_neg (h2 k (by omega) (by omega)), posL_none k (by omega) (fun p h3 h4 => h2 p h3 (by omega))]
theorem ltr_ne {i r : Nat} (hi : i < 4) (hr : r < 4) (h : i ≠ r) : ltr i ≠ ltr r := fun e => by
  have := congrArg UInt8.toNat e
  rw [ltr_nat hi, ltr_nat hr] at this
  omega
theorem ltr_ne0 {i : Nat} (hi : i < 4) : ltr i ≠ 0 := fun e => by
  have := congrArg UInt8.toNat e
  rw [ltr_nat hi] at this
  simp at this
theorem mStep_pos {n i : Nat} (hi : i < 4) {z : Int} {O : List UInt8} (hn : O.length = n) (hz : 0 ≤ z) (hno : ∀ p : Nat, z ≤ (p : Int) → p < n → O.getD p 0 ≠ ltr i) {x : Int} {q : Int × List UInt8} (h : mStep n i (z, O) x = some q) :
    q.2.length = n ∧ 0 ≤ q.1 ∧ (∀ p : Nat, q.1 ≤ (p : Int) → p < n → q.2.getD p 0 ≠ ltr i) ∧ posL q.2 i n = posL O i n ++ [x] ∧ ∀ r, r < 4 → r ≠ i → posL q.2 r n = posL O r n := by
  unfold mStep at h
  split at h
  case isFalse => cases h
  case isTrue hc =>
    obtain ⟨h1, h2, h3, h4⟩ := hc
    have hq := Option.some.inj h
    subst hq
    obtain ⟨j, rfl⟩ : ∃ j : Nat, x = (j : Int) + 1 := ⟨x.toNat - 1, by omega⟩
    have e : ((j : Int) + 1).toNat - 1 = j := by omega
    rw [e] at h3 ⊢
    have hjn : j < n := by omega
    have hg : ∀ p, p < n → (O.set j (ltr i)).getD p 0 = if p = j then ltr i else O.getD p 0 := fun p hp => getD_set8 O j _ (by omega)
    refine ⟨by rw [List.length_set]; exact hn, by show (0 : Int) ≤ (j : Int) + 1; omega, fun p hp hp2 => ?_, ?_, fun r hr hri => ?_⟩
    · have hp' : (j : Int) + 1 ≤ (p : Int) := hp
      show (O.set j (ltr i)).getD p 0 ≠ _
      rw [hg p hp2, if_neg (by omega)]
      have h4' : z < (j : Int) + 1 := h4
      exact hno p (by omega) hp2
    · show posL (O.set j (ltr i)) i n = _
      have h4' : z < (j : Int) + 1 := h4
      rw [posL_none (O := O.set j (ltr i)) (a := j + 1) n (by omega) (fun p h5 h6 => by rw [hg p h6, if_neg (by omega)]; exact hno p (by omega) h6), posL, if_pos (by rw [hg j hjn, if_pos rfl]),
        posL_none (O := O) (a := j) n (by omega) (fun p h5 h6 => hno p (by omega) h6),
        posL_congr (O := O.set j (ltr i)) (O' := O) j (fun p hp => by rw [hg p (by omega), if_neg (by omega)])]
    · show posL (O.set j (ltr i)) r n = _
      refine posL_congr n (fun p hp => ?_)
      rw [hg p hp]
      by_cases e2 : p = j
      · subst e2
        rw [if_pos rfl]
        exact ⟨fun x => absurd x (ltr_ne hi hr (fun y => hri y.symm)), fun x => absurd (h3.symm.trans x) (fun y => ltr_ne0 hr y.symm)⟩
      · rw [if_neg e2]
theorem mRow_pos {n i : Nat} (hi : i < 4) : ∀ (xs : List Int) (z : Int) (O : List UInt8) (q : Int × List UInt8), O.length = n → 0 ≤ z → (∀ p : Nat, z ≤ (p : Int) → p < n → O.getD p 0 ≠ ltr i) → mRow n i (z, O) xs = some q →
    q.2.length = n ∧ posL q.2 i n = posL O i n ++ xs ∧ ∀ r, r < 4 → r ≠ i → posL q.2 r n = posL O r n
  | [], z, O, q, hn, hz, hno, h => by
    have hq := Option.some.inj h
    subst hq
    exact ⟨hn, by simp, fun _ _ _ => rfl⟩
  | x :: xs, z, O, q, hn, hz, hno, h => by
    have h' : (mStep n i (z, O) x).bind (fun q' => mRow n i q' xs) = some q := h
    cases hs : mStep n i (z, O) x with
    | none => rw [hs] at h'; cases h'
    | some q' =>
      rw [hs] at h'
      obtain ⟨a1, a2, a3, a4, a5⟩ := mStep_pos hi hn hz hno hs
      obtain ⟨b1, b2, b3⟩ := mRow_pos hi xs q'.1 q'.2 q a1 a2 a3 h'
      exact ⟨b1, by rw [b2, a4, List.append_assoc]; rfl, fun r hr hri => by rw [b3 r hr hri, a5 r hr hri]⟩
theorem posL_zero (n r : Nat) (hr : r < 4) : ∀ k, k ≤ n → posL (List.replicate n 0) r k = []
  | 0, _ => rfl
  | k + 1, hk => by
    rw [posL, if_neg, posL_zero n r hr k (by omega)]
    rw [List.getD_eq_getElem?_getD, List.getElem?_replicate, if_pos (by omega)]
    exact fun e => ltr_ne0 hr e.symm
theorem posL_free {O : List UInt8} {n i : Nat} (h : posL O i n = []) : ∀ p, p < n → O.getD p 0 ≠ ltr i := by
  induction n with
  | zero => intro p hp; omega
  | succ n ih =>
    rw [posL] at h
    split at h
    · simp at h
    · next hne =>
      intro p hp
      by_cases e : p = n
      · subst e; exact hne
      · exact ih h p (by omega)
/-- how many letters there are among the first k -/
def posN (O : List UInt8) (k : Nat) : Nat := (posL O 0 k).length + (posL O 1 k).length + (posL O 2 k).length + (posL O 3 k).length
theorem posN_le (O : List UInt8) : ∀ k, posN O k ≤ k ∧ (posN O k = k → ∀ p, p < k → ∃ r, r < 4 ∧ O.getD p 0 = ltr r)
  | 0 => ⟨by simp [posN, posL], fun _ p hp => by omega⟩
  | k + 1 => by
    obtain ⟨h1, h2⟩ := posN_le O k
    have hstep : posN O (k + 1) = posN O k + 1 ∧ (∃ r, r < 4 ∧ O.getD k 0 = ltr r) ∨ posN O (k + 1) = posN O k := by
      unfold posN
      simp only [posL]
      by_cases e0 : O.getD k 0 = ltr 0
      · left
        have n1 : O.getD k 0 ≠ ltr 1 := fun x => ltr_ne (by omega) (by omega) (by omega) (e0.symm.trans x)
        have n2 : O.getD k 0 ≠ ltr 2 := fun x => ltr_ne (by omega) (by omega) (by omega) (e0.symm.trans x)
        have n3 : O.getD k 0 ≠ ltr 3 := fun x => ltr_ne (by omega) (by omega) (by omega) (e0.symm.trans x)
        rw [if_pos e0, if_neg n1, if_neg n2, if_neg n3, List.length_append]
        exact ⟨by simp; omega, 0, by omega, e0⟩
      · by_cases e1 : O.getD k 0 = ltr 1
        · left
          have n2 : O.getD k 0 ≠ ltr 2 := fun x => ltr_ne (by omega) (by omega) (by omega) (e1.symm.trans x)
          have n3 : O.getD k 0 ≠ ltr 3 := fun x => ltr_ne (by omega) (by omega) (by omega) (e1.symm.trans x)
          rw [if_neg e0, if_pos e1, if_neg n2, if_neg n3, List.length_append]
          exact ⟨by simp; omega, 1, by omega, e1⟩
        · by_cases e2 : O.getD k 0 = ltr 2
          · left
            have n3 : O.getD k 0 ≠ ltr 3 := fun x => ltr_ne (by omega) (by omega) (by omega) (e2.symm.trans x)
            rw [if_neg e0, if_neg e1, if_pos e2, if_neg n3, List.length_append]
            exact ⟨by simp; omega, 2, by omega, e2⟩
          · by_cases e3 : O.getD k 0 = ltr 3
            · left
              rw [if_neg e0, if_neg e1, if_neg e2, if_pos e3, List.length_append]
              exact ⟨by simp; omega, 3, by omega, e3⟩
            · right
              rw [if_neg e0, if_neg e1, if_neg e2, if_neg e3]
    rcases hstep with ⟨hs, hr⟩ | hs
    · refine ⟨by omega, fun he p hp => ?_⟩
      by_cases e : p = k
      · subst e; exact hr
      · exact h2 (by omega) p (by omega)
    · exact ⟨by omega, fun he => by omega⟩
theorem mRows_pos {n : Nat} {r0 r1 r2 r3 : List Int} {O : List UInt8} (h : mRows n 0 (List.replicate n 0) [r0, r1, r2, r3] = some O) :
    O.length = n ∧ posL O 0 n = r0 ∧ posL O 1 n = r1 ∧ posL O 2 n = r2 ∧ posL O 3 n = r3 := by
  have z := fun r hr => posL_zero n r hr n (Nat.le_refl _)
  simp only [mRows, Nat.zero_add, Nat.reduceAdd] at h
  cases h0 : mRow n 0 (0, List.replicate n 0) r0 with
  | none => rw [h0] at h; cases h
  | some q0 =>
    rw [h0] at h
    obtain ⟨a1, a2, a3⟩ := mRow_pos (by omega) r0 0 _ q0 (by simp) (Int.le_refl _) (fun p _ hp => posL_free (z 0 (by omega)) p hp) h0
    rw [z 0 (by omega), List.nil_append] at a2
    cases h1 : mRow n 1 (0, q0.2) r1 with
    | none => simp only [Option.bind_some, h1] at h; cases h
    | some q1 =>
      simp only [Option.bind_some, h1] at h
      obtain ⟨b1, b2, b3⟩ := mRow_pos (by omega) r1 0 _ q1 a1 (Int.le_refl _) (fun p _ hp => posL_free (by rw [a3 1 (by omega) (by omega)]; exact z 1 (by omega)) p hp) h1
      rw [a3 1 (by omega) (by omega), z 1 (by omega), List.nil_append] at b2
      cases h2 : mRow n 2 (0, q1.2) r2 with
      | none => rw [h2] at h; cases h
      | some q2 =>
        simp only [Option.bind_some, h2] at h
        obtain ⟨c1, c2, c3⟩ := mRow_pos (by omega) r2 0 _ q2 b1 (Int.le_refl _) (fun p _ hp => posL_free (by rw [b3 2 (by omega) (by omega), a3 2 (by omega) (by omega)]; exact z 2 (by omega)) p hp) h2
        rw [b3 2 (by omega) (by omega), a3 2 (by omega) (by omega), z 2 (by omega), List.nil_append] at c2
        cases h3 : mRow n 3 (0, q2.2) r3 with
        | none => rw [h3] at h; cases h
        | some q3 =>
          simp only [Option.bind_some, h3] at h
          obtain ⟨d1, d2, d3⟩ := mRow_pos (by omega) r3 0 _ q3 c1 (Int.le_refl _) (fun p _ hp => posL_free (by rw [c3 3 (by omega) (by omega), b3 3 (by omega) (by omega), a3 3 (by omega) (by omega)]; exact z 3 (by omega)) p hp) h3
          rw [c3 3 (by omega) (by omega), b3 3 (by omega) (by omega), a3 3 (by omega) (by omega), z 3 (by omega), List.nil_append] at d2
          have hO := Option.some.inj h
          subst hO
          exact ⟨d1, by rw [d3 0 (by omega) (by omega), c3 0 (by omega) (by omega), b3 0 (by omega) (by omega), a2], by rw [d3 1 (by omega) (by omega), c3 1 (by omega) (by omega), b2], by rw [d3 2 (by omega) (by omega), c2], d2⟩
/-- what the model's numbers make of rows with as many numbers as there are letters -/
theorem mRows_tab {n : Nat} {r0 r1 r2 r3 : List Int} {O : List UInt8} (hn : n ≤ 16) (h : mRows n 0 (List.replicate n 0) [r0, r1, r2, r3] = some O) (hl : r0.length + r1.length + r2.length + r3.length = n) :
    votB ⟨O.toArray⟩ = true ∧ (⟨O.toArray⟩ : ByteArray).size = n ∧ tbS ⟨O.toArray⟩ n = [r0, r1, r2, r3] := by
  obtain ⟨h1, e0, e1, e2, e3⟩ := mRows_pos h
  have hN : posN O n = n := by unfold posN; rw [e0, e1, e2, e3]; exact hl
  have hall := (posN_le O n).2 hN
  have hsz : (⟨O.toArray⟩ : ByteArray).size = n := by simp [ByteArray.size]; exact h1
  have hli : (⟨O.toArray⟩ : ByteArray).data.toList = O := by simp
  have hcd : ∀ p r, r < 4 → O.getD p 0 = ltr r → cd ⟨O.toArray⟩ p = r := fun p r hr e => by
    unfold cd; rw [hli, e, ltr_nat hr]; omega
  have hrow : ∀ r, r < 4 → ∀ k, k ≤ n → tbRow ⟨O.toArray⟩ r k = posL O r k := by
    intro r hr k
    induction k with
    | zero => intro _; rfl
    | succ k ih =>
      intro hk
      rw [tbRow, posL, ih (by omega)]
      obtain ⟨r', hr', e⟩ := hall k (by omega)
      have hc := hcd k r' hr' e
      by_cases x : r' = r
      · subst x; rw [if_pos hc, if_pos e]
      · rw [if_neg (by omega), if_neg (fun y => ltr_ne hr' hr x (e.symm.trans y))]
  refine ⟨(votB_iff _).2 ⟨by omega, fun k hk => ?_⟩, hsz, ?_⟩
  · rw [isV_iff, ← getD_byte _ k hk, hli]
    obtain ⟨r, hr, e⟩ := hall k (by omega)
    rw [e, ltr_nat hr]
    omega
  · unfold tbS
    rw [hrow 0 (by omega) n (Nat.le_refl _), hrow 1 (by omega) n (Nat.le_refl _), hrow 2 (by omega) n (Nat.le_refl _), hrow 3 (by omega) n (Nat.le_refl _), e0, e1, e2, e3]
end Go.Proofs.YtmfcknlpbliehaaDoor
