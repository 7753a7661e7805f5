/- Pack 21 of what FnFansAndCubes needs: Shrink, ForV, TreesS. -/
import Derived.Test.YtmfcknlpbliehabKFnFansAndCubes20
/- A slice of the call's own, cut short: s[:k]. -/
namespace Go.Proofs.Ytmfcknlpbliehab
open Go.RowKit
theorem IRow.shrink {w : World} {B g c n : Nat} {xs : List Int} (h : IRow w B (.slice (some ⟨g, 0, none⟩) n c) xs) (k : Nat) (hk : k ≤ xs.length) :
    IRow w B (.slice (some ⟨g, 0, none⟩) k c) (xs.take k) := by
  have h1 := h.1
  rcases h.2 with ⟨h2, _⟩ | ⟨g', cap, cur, h2, hB, hg, hn, hm, hs, ht⟩
  · cases h2
  · injection h2 with e1 e2 e3
    injection e1 with e1
    injection e1 with e1
    subst e1 e3
    have hlen : (xs.take k).length = k := by rw [List.length_take]; omega
    unfold IRow
    rw [hlen]
    refine ⟨by rw [List.length_map, hlen, Nat.mul_one], .inr ⟨g, c, cur, rfl, hB, hg, by omega, hm, hs, ?_⟩⟩
    rw [List.map_take, ← ht, List.take_take, Nat.mul_one, Nat.mul_one, Nat.min_eq_left hk]
theorem IRow.apart {w w' : World} {B : Nat} {v : Value} {xs : List Int} {r : Option Nat} (h : IRow w B v xs) (hg : w.grownBy w' r) (hne : ∀ k, v.ownBlock = some k → some k ≠ r) : IRow w' B v xs :=
  World.ownsRow.kept h hg (by
    cases e : v.ownBlock with
    | none => exact .inl rfl
    | some k => exact .inr (hne k e))
end Go.Proofs.Ytmfcknlpbliehab

/- What is said of a list that is a forest: its parents, depths. -/
namespace Go.Proofs.Ytmfcknlpbliehab
open Go.RowKit
set_option linter.unusedVariables false
theorem forest_ex {xs : List Int} (h : forV xs = true) : ∃ f : For, f.enc = xs ∧ (f.cnt : Int) = exc xs := by
  unfold forV at h
  rw [Bool.and_eq_true] at h
  exact forest_of h.1 h.2
/-- the parents of a list that is a forest -/
noncomputable def parV (xs : List Int) : List Int := if h : forV xs = true then (forest_ex h).choose.par 0 (-1) else []
theorem parV_len (xs : List Int) (hl : xs.length ≤ 1048576) : (parV xs).length ≤ 1048577 := by
  unfold parV
  split
  · rename_i h
    rw [For.par_length, ← For.enc_length, (forest_ex h).choose_spec.1]
    omega
  · simp
theorem parV_of {xs : List Int} (h : forV xs = true) : parV xs = (cpRun xs ([], [])).1 := by
  unfold parV
  rw [dif_pos h]
  have e := cpRun_top (forest_ex h).choose []
  rw [(forest_ex h).choose_spec.1] at e
  rw [e]
  simp
theorem parV_length {xs : List Int} (h : forV xs = true) : (parV xs).length = xs.length := by
  unfold parV
  rw [dif_pos h, For.par_length, ← For.enc_length, (forest_ex h).choose_spec.1]
theorem par_bd : ∀ (f : For) (i p : Int), ∀ x ∈ f.par i p, x = p ∨ (i ≤ x ∧ x < i + f.size)
  | For.nil, _, _, x, h => by simp [For.par] at h
  | For.node c r, i, p, x, h => by
    rw [For.par, List.mem_cons, List.mem_append] at h
    rw [For.size]
    rcases h with h | h | h
    · exact .inl h
    · rcases par_bd c _ _ x h with h2 | h2 <;> omega
    · rcases par_bd r _ _ x h with h2 | h2 <;> omega
theorem parV_bd {xs : List Int} (h : forV xs = true) (k : Nat) (hk : k < xs.length) : -1 ≤ (parV xs).getD k 0 ∧ (parV xs).getD k 0 < xs.length := by
  have hl := parV_length h
  have hm : (parV xs).getD k 0 ∈ parV xs := by rw [List.getD_eq_getElem?_getD, List.getElem?_eq_getElem (by omega)]; exact List.getElem_mem _
  generalize (parV xs).getD k 0 = x at *
  unfold parV at hm
  rw [dif_pos h] at hm
  have := par_bd _ _ _ x hm
  rw [← For.enc_length, (forest_ex h).choose_spec.1] at this
  omega
/-- the depths after k nodes, from the parents -/
def dSt (ps : List Int) (n : Nat) : Nat → List Int
  | 0 => List.replicate n 0
  | k + 1 => if 0 ≤ ps.getD k 0 then (dSt ps n k).set k ((dSt ps n k).getD (ps.getD k 0).toNat 0 + 1) else dSt ps n k
theorem dSt_length (ps : List Int) (n : Nat) : ∀ k, (dSt ps n k).length = n
  | 0 => by simp [dSt]
  | k + 1 => by
    rw [dSt]
    split
    · rw [List.length_set, dSt_length ps n k]
    · exact dSt_length ps n k
theorem dSt_bd (ps : List Int) (n : Nat) : ∀ k j, 0 ≤ (dSt ps n k).getD j 0 ∧ (dSt ps n k).getD j 0 ≤ k
  | 0, j => by
    rw [dSt, List.getD_eq_getElem?_getD, List.getElem?_replicate]
    split <;> simp
  | k + 1, j => by
    have h1 := dSt_bd ps n k j
    have h2 := dSt_bd ps n k (ps.getD k 0).toNat
    rw [dSt]
    split
    · rw [List.getD_eq_getElem?_getD, List.getElem?_set]
      split
      · split
        · simp only [Option.getD_some]; omega
        · simp only [Option.getD_none]; omega
      · rw [← List.getD_eq_getElem?_getD]; omega
    · omega
theorem dSt_yes {ps : List Int} {n k : Nat} (h : 0 ≤ ps.getD k 0) : (dSt ps n k).set k ((dSt ps n k).getD (ps.getD k 0).toNat 0 + 1) = dSt ps n (k + 1) := by rw [dSt, if_pos h]
theorem dSt_no {ps : List Int} {n k : Nat} (h : ¬ 0 ≤ ps.getD k 0) : dSt ps n k = dSt ps n (k + 1) := by rw [dSt, if_neg h]
noncomputable def depV (xs : List Int) : List Int := if forV xs = true then dSt (parV xs) xs.length xs.length else []
theorem depV_len (xs : List Int) (hl : xs.length ≤ 1048576) : (depV xs).length ≤ 1048577 := by
  unfold depV
  split
  · rw [dSt_length]; omega
  · simp
theorem depV_yes {xs : List Int} (h : forV xs = true) : depV xs = dSt (parV xs) xs.length xs.length := by unfold depV; rw [if_pos h]
theorem depV_no {xs : List Int} (h : forV xs = false) : depV xs = [] := by unfold depV; rw [h]; rfl
end Go.Proofs.Ytmfcknlpbliehab

/- The model's cyTrees, TreesOf; the program's TreesOf. -/
namespace Go.Proofs.Ytmfcknlpbliehab
open Go.RowKit
set_option linter.unusedVariables false
def trsL (xs : List Int) : List (List Int) := (ctRun xs ([], [], 1)).1
theorem trsL_of {xs : List Int} {f : For} (h : f.enc = xs) : trsL xs = f.trs := by
  unfold trsL
  rw [← h, ctRun_trs]
  simp
theorem hat_alloc {v v' : Value} {w : World} {o : Obj} (h : v'.ownBlock = v.ownBlock ∨ ∃ g, v'.ownBlock = some g ∧ (w.alloc o).heap.size ≤ g) : v'.ownBlock = v.ownBlock ∨ ∃ g, v'.ownBlock = some g ∧ w.heap.size ≤ g := by
  rcases h with h | ⟨g, h1, h2⟩
  · exact .inl h
  · exact .inr ⟨g, h1, by simp at h2; omega⟩
def trsV (xs : List Int) : List (List Int) := if forV xs = true then trsL xs else []
theorem trs_flat : ∀ f : For, f.trs.flatten = f.enc
  | For.nil => rfl
  | For.node c r => by rw [For.trs, For.enc, List.flatten_cons, trs_flat r]; simp
theorem trsV_len (xs : List Int) (hl : xs.length ≤ 1048576) : (trsV xs).length ≤ 1048576 := by
  unfold trsV
  split
  · rename_i h
    obtain ⟨f, hf, _⟩ := forest_ex h
    rw [trsL_of hf, f.trs_length]
    have := f.cnt_le
    rw [← f.enc_length, hf] at this
    omega
  · simp
theorem trsV_flat (xs : List Int) (hl : xs.length ≤ 1048576) : (trsV xs).flatten.length ≤ 1048576 := by
  unfold trsV
  split
  · rename_i h
    obtain ⟨f, hf, _⟩ := forest_ex h
    rw [trsL_of hf, trs_flat, hf]
    exact hl
  · simp
end Go.Proofs.Ytmfcknlpbliehab
