/- Depths of a forest's nodes, from the parents; the path told by depths. -/
import Derived.Test.YtgajknnfmnnfeaaForNth
import Derived.Test.YtgajknnfmnnfeaaForV
namespace Go.Proofs.Ytgajknnfmnnfeaa
open Go.RowKit
set_option linter.unusedVariables false
def For.dep : For → Int → List Int
  | For.nil, _ => []
  | For.node c r, k => k :: (For.dep c (k + 1) ++ For.dep r k)
theorem For.dep_length : ∀ (f : For) (k : Int), (f.dep k).length = f.size
  | For.nil, _ => rfl
  | For.node c r, k => by rw [For.dep, For.size, List.length_cons, List.length_append, For.dep_length c, For.dep_length r]
theorem For.dep_ge : ∀ (f : For) (k : Int), ∀ d ∈ f.dep k, k ≤ d
  | For.nil, _, d, h => by simp [For.dep] at h
  | For.node c r, k, d, h => by
    rw [For.dep, List.mem_cons, List.mem_append] at h
    rcases h with h | h | h
    · omega
    · have := For.dep_ge c _ d h; omega
    · exact For.dep_ge r _ d h
def dRun : List Int → Nat → List Int → List Int
  | [], _, L => L
  | p :: ps, i, L => dRun ps (i + 1) (if 0 ≤ p then L.set i (L.getD p.toNat 0 + 1) else L)
theorem dRun_app : ∀ (a b : List Int) (i : Nat) (L : List Int), dRun (a ++ b) i L = dRun b (i + a.length) (dRun a i L)
  | [], b, i, L => rfl
  | p :: a, b, i, L => by
    rw [List.cons_append, dRun, dRun, dRun_app a b, List.length_cons, show i + 1 + a.length = i + (a.length + 1) by omega]
theorem dSt_run (ps : List Int) (n : Nat) : ∀ k, k ≤ ps.length → dSt ps n k = dRun (ps.take k) 0 (List.replicate n 0)
  | 0, _ => rfl
  | k + 1, hk => by
    rw [dSt, dSt_run ps n k (by omega), List.take_succ_eq_append_getElem (show k < ps.length by omega), dRun_app, List.getD_eq_getElem?_getD, List.getElem?_eq_getElem (show k < ps.length by omega)]
    simp only [Option.getD_some, List.length_take, Nat.min_eq_left (show k ≤ ps.length by omega), Nat.zero_add, dRun]
theorem getD_left (a b : List Int) (j : Nat) (h : j < a.length) : (a ++ b).getD j 0 = a.getD j 0 := by
  rw [List.getD_eq_getElem?_getD, List.getElem?_append_left h, ← List.getD_eq_getElem?_getD]
theorem dRun_par : ∀ (f : For) (a b : List Int) (p d : Int), (0 ≤ p → p.toNat < a.length ∧ a.getD p.toNat 0 = d) → (p < 0 → d = -1) → dRun (f.par a.length p) a.length (a ++ List.replicate f.size 0 ++ b) = a ++ f.dep (d + 1) ++ b
  | For.nil, a, b, p, d, _, _ => by simp [For.par, dRun, For.dep, For.size]
  | For.node c r, a, b, p, d, h1, h2 => by
    rw [For.par, dRun]
    have e1 : (if 0 ≤ p then (a ++ List.replicate (For.node c r).size 0 ++ b).set a.length ((a ++ List.replicate (For.node c r).size 0 ++ b).getD p.toNat 0 + 1) else a ++ List.replicate (For.node c r).size 0 ++ b) = (a ++ [d + 1]) ++ List.replicate c.size 0 ++ (List.replicate r.size 0 ++ b) := by
      have e0 : a ++ List.replicate (For.node c r).size 0 ++ b = a ++ (0 : Int) :: (List.replicate c.size 0 ++ (List.replicate r.size 0 ++ b)) := by
        rw [For.size, List.replicate_succ]
        rw [← List.append_assoc (List.replicate c.size 0), List.replicate_append_replicate]
        simp
      rw [e0]
      by_cases hp : 0 ≤ p
      · obtain ⟨q1, q2⟩ := h1 hp
        rw [if_pos hp, getD_left _ _ _ q1, q2, set_mid]
        simp
      · rw [if_neg hp]
        have := h2 (by omega)
        subst this
        simp
    rw [e1, dRun_app]
    have l1 : (a ++ [d + 1]).length = a.length + 1 := by simp
    have k1 := dRun_par c (a ++ [d + 1]) (List.replicate r.size 0 ++ b) (a.length : Int) (d + 1) (fun _ => ⟨by rw [Int.toNat_natCast]; simp, by rw [Int.toNat_natCast, List.getD_eq_getElem?_getD]; simp⟩) (fun h => by omega)
    rw [l1] at k1
    rw [show ((a.length : Int) + 1) = ((a.length + 1 : Nat) : Int) by omega, k1, For.par_length]
    have e2 : a ++ [d + 1] ++ c.dep (d + 1 + 1) ++ (List.replicate r.size 0 ++ b) = (a ++ (d + 1) :: c.dep (d + 1 + 1)) ++ List.replicate r.size 0 ++ b := by simp
    have l2 : (a ++ (d + 1) :: c.dep (d + 1 + 1)).length = a.length + 1 + c.size := by simp [For.dep_length]; omega
    have k2 := dRun_par r (a ++ (d + 1) :: c.dep (d + 1 + 1)) b p d (fun hp => by
      obtain ⟨q1, q2⟩ := h1 hp
      exact ⟨by rw [l2]; omega, by rw [getD_left _ _ _ q1]; exact q2⟩) h2
    rw [l2] at k2
    have e3 : ((a.length + 1 : Nat) : Int) + (c.size : Int) = ((a.length + 1 + c.size : Nat) : Int) := by omega
    rw [e2, e3, k2, For.dep]
    simp
theorem depV_dep {xs : List Int} (h : forV xs = true) {f : For} (hf : f.enc = xs) : depV xs = f.dep 0 := by
  have hp : parV xs = f.par 0 (-1) := by
    rw [parV_of h, ← hf, cpRun_top]
    simp
  have hs : f.size = xs.length := (For.cnt_enc_le hf).2
  rw [depV_yes h, hp, dSt_run _ _ _ (by rw [For.par_length]; omega), List.take_of_length_le (by rw [For.par_length]; omega)]
  have := dRun_par f [] [] (-1) (-1) (fun h => by omega) (fun _ => rfl)
  simpa [hs] using this
/-- the path so far, and the depth, after the next depth -/
def ptStep (s : List UInt8 × Int) (d : Int) : List UInt8 × Int := (s.1 ++ List.replicate (s.2 + 1 - d).toNat 68 ++ [85], d)
def ptRun (ds : List Int) (s : List UInt8 × Int) : List UInt8 × Int := ds.foldl ptStep s
theorem ptRun_app (a b : List Int) (s : List UInt8 × Int) : ptRun (a ++ b) s = ptRun b (ptRun a s) := List.foldl_append ..
theorem ptRun_snoc (ds : List Int) (k : Nat) (hk : k < ds.length) (s : List UInt8 × Int) : ptRun (ds.take (k + 1)) s = ptStep (ptRun (ds.take k) s) (ds.getD k 0) := by
  rw [List.take_succ_eq_append_getElem hk, ptRun_app, List.getD_eq_getElem?_getD, List.getElem?_eq_getElem hk]
  rfl
theorem ptRun_dep : ∀ (f : For) (j e : Int) (out : List UInt8), j ≤ e → j ≤ (ptRun (f.dep (j + 1)) (out, e)).2 ∧
    (ptRun (f.dep (j + 1)) (out, e)).1 ++ List.replicate ((ptRun (f.dep (j + 1)) (out, e)).2 - j).toNat 68 = out ++ List.replicate (e - j).toNat 68 ++ f.pb
  | For.nil, j, e, out, h => by simp [For.dep, ptRun, For.pb, h]
  | For.node c r, j, e, out, h => by
    have e0 : ptRun ((For.node c r).dep (j + 1)) (out, e) = ptRun (r.dep (j + 1)) (ptRun (c.dep (j + 1 + 1)) (out ++ List.replicate (e - j).toNat 68 ++ [85], j + 1)) := by
      rw [For.dep]
      show ptRun (c.dep (j + 1 + 1) ++ r.dep (j + 1)) (ptStep (out, e) (j + 1)) = _
      rw [ptRun_app, ptStep, show e + 1 - (j + 1) = e - j by omega]
    obtain ⟨a1, a2⟩ := ptRun_dep c (j + 1) (j + 1) (out ++ List.replicate (e - j).toNat 68 ++ [85]) (Int.le_refl _)
    rw [e0]
    generalize ptRun (c.dep (j + 1 + 1)) (out ++ List.replicate (e - j).toNat 68 ++ [85], j + 1) = s at *
    obtain ⟨o2, e2⟩ := s
    simp only at a1 a2
    obtain ⟨b1, b2⟩ := ptRun_dep r j e2 o2 (by omega)
    refine ⟨b1, ?_⟩
    rw [b2, show (e2 - j).toNat = (e2 - (j + 1)).toNat + 1 by omega, List.replicate_succ', ← List.append_assoc, a2, For.pb]
    simp
theorem pt_tree (c : For) : (ptRun (c.dep 1) ([], 0)).1 ++ List.replicate (ptRun (c.dep 1) ([], 0)).2.toNat 68 = c.pb ∧ 0 ≤ (ptRun (c.dep 1) ([], 0)).2 := by
  have h := ptRun_dep c 0 0 [] (Int.le_refl _)
  have e : (0 : Int) + 1 = 1 := rfl
  rw [e] at h
  refine ⟨?_, h.1⟩
  have := h.2
  simpa using this
theorem ptRun_le : ∀ (ds : List Int) (B : Int) (s : List UInt8 × Int), (∀ d ∈ ds, 0 ≤ d ∧ d ≤ B) → 0 ≤ s.2 ∧ s.2 ≤ B → 0 ≤ (ptRun ds s).2 ∧ (ptRun ds s).2 ≤ B
  | [], B, s, _, h => h
  | d :: ds, B, s, h, h2 => by
    have := h d (by simp)
    exact ptRun_le ds B (ptStep s d) (fun x hx => h x (by simp [hx])) this
end Go.Proofs.Ytgajknnfmnnfeaa
