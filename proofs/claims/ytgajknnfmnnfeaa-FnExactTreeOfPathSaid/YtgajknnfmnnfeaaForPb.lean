/- Paths of forests: heights, returns, which paths are such. -/
import Derived.Test.YtgajknnfmnnfeaaForNth
import Derived.Test.YtgajknnfmnnfeaaHtMath
namespace Go.Proofs.Ytgajknnfmnnfeaa
open Go.RowKit
set_option linter.unusedVariables false
/-- the height behind i of the steps -/
def hL (l : List UInt8) (i : Nat) : Int := ((l.take i).map stepI).sum
theorem hAt_hL (s : ByteArray) (k : Nat) : hAt s k = hL s.data.toList k := rfl
theorem hL_0 (l : List UInt8) : hL l 0 = 0 := by simp [hL]
theorem hL_cons (x : UInt8) (l : List UInt8) (i : Nat) : hL (x :: l) (i + 1) = stepI x + hL l i := by simp [hL]
theorem hL_left (a b : List UInt8) (i : Nat) (h : i ≤ a.length) : hL (a ++ b) i = hL a i := by
  unfold hL
  rw [List.take_append_of_le_length h]
theorem hL_right (a b : List UInt8) (j : Nat) : hL (a ++ b) (a.length + j) = hL a a.length + hL b j := by
  unfold hL
  rw [List.take_length, List.take_length_add_append, List.map_append, List.sum_append]
theorem stepU : stepI 85 = 1 := rfl
theorem stepD : stepI 68 = -1 := rfl
theorem hpb : ∀ f : For, hL f.pb f.pb.length = 0 ∧ ∀ i, i ≤ f.pb.length → 0 ≤ hL f.pb i
  | For.nil => ⟨rfl, fun i h => by
    have : i = 0 := by simpa [For.pb] using h
    subst this
    rw [hL_0]; exact Int.le_refl _⟩
  | For.node c r => by
    obtain ⟨c1, c2⟩ := hpb c
    obtain ⟨r1, r2⟩ := hpb r
    have hx : ∀ j, hL (68 :: r.pb) (j + 1) = -1 + hL r.pb j := fun j => by rw [hL_cons, stepD]
    have key : ∀ i, i ≤ (For.node c r).pb.length → (i = 0 ∨ (∃ a, i = a + 1 ∧ a ≤ c.pb.length) ∨ ∃ b, i = c.pb.length + (b + 1) + 1 ∧ b ≤ r.pb.length) := fun i h => by
      rw [For.pb, List.length_cons, List.length_append, List.length_cons] at h
      rcases Nat.eq_zero_or_pos i with h0 | h0
      · exact .inl h0
      · by_cases h1 : i ≤ c.pb.length + 1
        · exact .inr (.inl ⟨i - 1, by omega, by omega⟩)
        · exact .inr (.inr ⟨i - c.pb.length - 2, by omega, by omega⟩)
    have v1 : ∀ a, a ≤ c.pb.length → hL (For.node c r).pb (a + 1) = 1 + hL c.pb a := fun a h => by
      rw [For.pb, hL_cons, stepU, hL_left _ _ _ h]
    have v2 : ∀ b, hL (For.node c r).pb (c.pb.length + (b + 1) + 1) = hL r.pb b := fun b => by
      rw [For.pb, hL_cons, stepU, hL_right, c1, hx]
      omega
    refine ⟨?_, fun i h => ?_⟩
    · have := v2 r.pb.length
      rw [r1] at this
      rw [For.pb, List.length_cons, List.length_append, List.length_cons]
      exact this
    · rcases key i h with rfl | ⟨a, rfl, ha⟩ | ⟨b, rfl, hb⟩
      · rw [hL_0]; exact Int.le_refl _
      · rw [v1 a ha]; have := c2 a ha; omega
      · rw [v2 b]; exact r2 b hb
/-- inside the first tree the height is at least 1, behind it 0 -/
theorem hpb_in (c r : For) (i : Nat) (h : i ≤ 2 * c.size) : 1 ≤ hL (For.node c r).pb (i + 1) := by
  have hl := c.pb_length
  rw [For.pb, hL_cons, stepU, hL_left _ _ _ (by omega)]
  have := (hpb c).2 i (by omega)
  omega
theorem hpb_end (c r : For) : hL (For.node c r).pb (2 * c.size + 2) = 0 := by
  have hl := c.pb_length
  have e : 2 * c.size + 2 = (c.pb.length + 1) + 1 := by omega
  rw [e, For.pb, hL_cons, stepU, hL_right, (hpb c).1, hL_cons, stepD, hL_0]
  rfl
/-- a path that is nowhere below 0 and ends at 0, told by a forests, one behind the other -/
def chain : List For → List UInt8
  | [] => []
  | [f] => f.pb
  | f :: g :: r => f.pb ++ 68 :: chain (g :: r)
theorem parsePb : ∀ (l : List UInt8) (a : Nat), (∀ x ∈ l, x = 85 ∨ x = 68) → (∀ i, i ≤ l.length → 0 ≤ (a : Int) + hL l i) → (a : Int) + hL l l.length = 0 → ∃ fs : List For, fs.length = a + 1 ∧ chain fs = l
  | [], a, _, _, h => by
    have h' : (a : Int) + hL [] 0 = 0 := h
    rw [hL_0] at h'
    have : a = 0 := by omega
    subst this
    exact ⟨[For.nil], rfl, rfl⟩
  | x :: l, a, hx, h1, h2 => by
    have hx' : ∀ y ∈ l, y = 85 ∨ y = 68 := fun y hy => hx y (List.mem_cons_of_mem _ hy)
    rcases hx x (by simp) with rfl | rfl
    · obtain ⟨fs, h3, h4⟩ := parsePb l (a + 1) hx' (fun i hi => by have := h1 (i + 1) (by simpa using hi); rw [hL_cons, stepU] at this; omega) (by rw [List.length_cons, hL_cons, stepU] at h2; omega)
      match fs, h3, h4 with
      | f :: g :: r, h3, h4 =>
        refine ⟨For.node f g :: r, by simpa using h3, ?_⟩
        rw [← h4]
        cases r with
        | nil => rfl
        | cons k r => simp [chain, For.pb]
      | [f], h3, h4 => simp at h3
    · cases a with
      | zero => have := h1 1 (by simp); rw [hL_cons, stepD, hL_0] at this; omega
      | succ a =>
        obtain ⟨fs, h3, h4⟩ := parsePb l a hx' (fun i hi => by have := h1 (i + 1) (by simpa using hi); rw [hL_cons, stepD] at this; omega) (by rw [List.length_cons, hL_cons, stepD] at h2; omega)
        refine ⟨For.nil :: fs, by simp [h3], ?_⟩
        cases fs with
        | nil => simp at h3
        | cons f r => rw [← h4]; rfl
theorem path_forest (l : List UInt8) (hx : ∀ x ∈ l, x = 85 ∨ x = 68) (h1 : ∀ i, i ≤ l.length → 0 ≤ hL l i) (h2 : hL l l.length = 0) : ∃ f : For, f.pb = l := by
  obtain ⟨fs, h3, h4⟩ := parsePb l 0 hx (fun i hi => by have := h1 i hi; omega) (by omega)
  match fs, h3, h4 with
  | [f], _, h4 => exact ⟨f, h4⟩
/-- what the model's loop over a path comes to: the degrees so far, the nodes above, the last first -/
def tpStep (s : List Int × List Nat) (x : UInt8) : List Int × List Nat :=
  if x = 68 then (s.1, s.2.tail) else (s.1.set (s.2.headD 0) (s.1.getD (s.2.headD 0) 0 + 1) ++ [0], s.1.length :: s.2)
def tpRun (l : List UInt8) (s : List Int × List Nat) : List Int × List Nat := l.foldl tpStep s
theorem tpRun_app (a b : List UInt8) (s : List Int × List Nat) : tpRun (a ++ b) s = tpRun b (tpRun a s) := List.foldl_append ..
theorem tpRun_pb : ∀ (f : For) (O : List Int) (p : Nat) (S : List Nat), p < O.length → tpRun f.pb (O, p :: S) = (O.set p (O.getD p 0 + (f.cnt : Int)) ++ f.enc, p :: S)
  | For.nil, O, p, S, h => by
    have : O.set p (O.getD p 0) = O := by
      rw [List.getD_eq_getElem?_getD, List.getElem?_eq_getElem h]
      exact List.set_getElem_self h
    simp only [For.pb, tpRun, List.foldl_nil, For.cnt, For.enc, List.append_nil, Int.natCast_zero, Int.add_zero, this]
  | For.node c r, O, p, S, h => by
    have e1 : tpRun (For.node c r).pb (O, p :: S) = tpRun r.pb (tpStep (tpRun c.pb (O.set p (O.getD p 0 + 1) ++ [0], O.length :: p :: S)) 68) := by
      rw [For.pb]
      show tpRun (c.pb ++ 68 :: r.pb) (tpStep (O, p :: S) 85) = _
      rw [tpRun_app]
      rfl
    have l1 : (O.set p (O.getD p 0 + 1)).length = O.length := List.length_set
    have g1 : (O.set p (O.getD p 0 + 1) ++ [0]).getD O.length 0 = 0 := by
      rw [List.getD_eq_getElem?_getD, List.getElem?_append_right (by omega)]
      simp
    have s1 : (O.set p (O.getD p 0 + 1) ++ [0]).set O.length (0 + (c.cnt : Int)) = O.set p (O.getD p 0 + 1) ++ [(c.cnt : Int)] := by
      rw [List.set_append, if_neg (by omega), l1, Nat.sub_self]
      simp
    rw [e1, tpRun_pb c _ _ _ (by simp), g1, s1]
    show tpRun r.pb (O.set p (O.getD p 0 + 1) ++ [(c.cnt : Int)] ++ c.enc, p :: S) = _
    have g2 : (O.set p (O.getD p 0 + 1) ++ [(c.cnt : Int)] ++ c.enc).getD p 0 = O.getD p 0 + 1 := by
      rw [List.append_assoc, List.getD_eq_getElem?_getD, List.getElem?_append_left (by omega), List.getElem?_set_self h]
      rfl
    rw [tpRun_pb r _ _ _ (by simp; omega), g2, For.enc, For.cnt]
    rw [List.append_assoc, List.set_append, if_pos (by omega), List.set_set]
    simp only [Prod.mk.injEq, and_true]
    rw [show O.getD p 0 + 1 + (r.cnt : Int) = O.getD p 0 + ((r.cnt + 1 : Nat) : Int) by omega]
    simp
theorem tpRun_snoc (l : List UInt8) (k : Nat) (h : k < l.length) (s : List Int × List Nat) : tpRun (l.take (k + 1)) s = tpStep (tpRun (l.take k) s) l[k] := by
  rw [List.take_succ_eq_append_getElem h, tpRun_app]
  rfl
theorem tp_tree (f : For) : (tpRun f.pb ([0], [0])).1 = (f.cnt : Int) :: f.enc := by
  rw [tpRun_pb f [0] 0 [] (by simp)]
  simp
/-- the nodes above: as many as the height tells and one more; all of them are there -/
theorem tp_inv (l : List UInt8) (hx : ∀ x ∈ l, x = 85 ∨ x = 68) (h1 : ∀ i, i ≤ l.length → 0 ≤ hL l i) : ∀ k, k ≤ l.length →
    ((tpRun (l.take k) ([0], [0])).2.length : Int) = 1 + hL l k ∧ (∀ p ∈ (tpRun (l.take k) ([0], [0])).2, p < (tpRun (l.take k) ([0], [0])).1.length) ∧ (tpRun (l.take k) ([0], [0])).1.length ≤ k + 1 ∧ (∀ j, 0 ≤ (tpRun (l.take k) ([0], [0])).1.getD j 0 ∧ (tpRun (l.take k) ([0], [0])).1.getD j 0 ≤ k)
  | 0, _ => by
    rw [hL_0]
    refine ⟨rfl, fun p hp => ?_, Nat.le_refl _, fun j => ?_⟩
    · have : p = 0 := by simpa [tpRun] using hp
      subst this
      exact Nat.one_pos
    · cases j with
      | zero => exact ⟨Int.le_refl _, Int.le_refl _⟩
      | succ j => exact ⟨Int.le_refl _, Int.le_refl _⟩
  | k + 1, hk => by
    obtain ⟨a1, a2, a3, a4⟩ := tp_inv l hx h1 k (by omega)
    have hs := h1 k (by omega)
    have hs1 := h1 (k + 1) hk
    have hst : hL l (k + 1) = hL l k + stepI l[k] := by
      unfold hL
      rw [List.take_succ_eq_append_getElem (show k < l.length by omega), List.map_append, List.sum_append]
      simp
    rw [tpRun_snoc l k (by omega)]
    generalize tpRun (l.take k) ([0], [0]) = s at *
    obtain ⟨O, S⟩ := s
    simp only at a1 a2 a3 a4
    rcases hx l[k] (List.getElem_mem _) with h | h
    · rw [h] at hst ⊢
      rw [stepU] at hst
      have e : tpStep (O, S) 85 = (O.set (S.headD 0) (O.getD (S.headD 0) 0 + 1) ++ [0], O.length :: S) := rfl
      rw [e]
      refine ⟨by simp; omega, fun p hp => ?_, by simp; omega, fun j => ?_⟩
      · rw [List.mem_cons] at hp
        rw [List.length_append, List.length_set]
        rcases hp with rfl | hp
        · simp
        · have := a2 p hp; simp; omega
      · have hh := a4 (S.headD 0)
        have hj := a4 j
        rw [List.getD_eq_getElem?_getD]
        by_cases c : j < O.length
        · rw [List.getElem?_append_left (by rw [List.length_set]; exact c), List.getElem?_set]
          by_cases c2 : S.headD 0 = j
          · rw [if_pos c2, if_pos (by omega)]
            simp only [Option.getD_some]
            omega
          · rw [if_neg c2, ← List.getD_eq_getElem?_getD]
            omega
        · rw [List.getElem?_append_right (by rw [List.length_set]; omega)]
          cases (j - (O.set (S.headD 0) (O.getD (S.headD 0) 0 + 1)).length) with
          | zero => simp; omega
          | succ q => simp; omega
    · rw [h] at hst ⊢
      rw [stepD] at hst
      have e : tpStep (O, S) 68 = (O, S.tail) := rfl
      rw [e]
      refine ⟨by rw [List.length_tail]; omega, fun p hp => a2 p (List.mem_of_mem_tail hp), by show O.length ≤ k + 1 + 1; omega, fun j => by have := a4 j; show 0 ≤ O.getD j 0 ∧ O.getD j 0 ≤ ((k + 1 : Nat) : Int); omega⟩
end Go.Proofs.Ytgajknnfmnnfeaa
