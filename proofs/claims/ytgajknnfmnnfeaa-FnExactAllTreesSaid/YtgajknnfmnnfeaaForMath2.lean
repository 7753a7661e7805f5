/- What the model's loops over a forest's degrees come to: trees, parents, paths. -/
import Derived.Test.YtgajknnfmnnfeaaForMath
namespace Go.Proofs.Ytgajknnfmnnfeaa
open Go.RowKit
set_option linter.unusedVariables false
/-- the trees of a list: what is read so far, the tree at hand, the nodes that it awaits -/
def ctStep (s : List (List Int) × List Int × Int) (d : Int) : List (List Int) × List Int × Int :=
  if s.2.2 + (d - 1) = 0 then (s.1 ++ [s.2.1 ++ [d]], [], 1) else (s.1, s.2.1 ++ [d], s.2.2 + (d - 1))
def ctRun (xs : List Int) (s : List (List Int) × List Int × Int) : List (List Int) × List Int × Int := xs.foldl ctStep s
theorem ctRun_nil (s : List (List Int) × List Int × Int) : ctRun [] s = s := rfl
theorem ctRun_cons (d : Int) (xs : List Int) (s : List (List Int) × List Int × Int) : ctRun (d :: xs) s = ctRun xs (ctStep s d) := rfl
theorem ctRun_app (xs ys : List Int) (s : List (List Int) × List Int × Int) : ctRun (xs ++ ys) s = ctRun ys (ctRun xs s) := List.foldl_append ..
theorem ctRun_open : ∀ (f : For) (out : List (List Int)) (t : List Int) (o : Int), (f.cnt : Int) + 1 ≤ o → ctRun f.enc (out, t, o) = (out, t ++ f.enc, o - f.cnt)
  | For.nil, out, t, o, h => by simp [For.enc, For.cnt, ctRun_nil]
  | For.node c r, out, t, o, h => by
    rw [For.cnt] at h
    rw [For.enc, ctRun_cons, ctStep, if_neg (by show ¬ o + ((c.cnt : Int) - 1) = 0; omega), ctRun_app, ctRun_open c _ _ _ (by show (c.cnt : Int) + 1 ≤ o + ((c.cnt : Int) - 1); omega), ctRun_open r _ _ _ (by show (r.cnt : Int) + 1 ≤ o + ((c.cnt : Int) - 1) - c.cnt; omega)]
    rw [For.cnt]
    simp only [Prod.mk.injEq, true_and]
    refine ⟨by simp, by omega⟩
theorem ctRun_close : ∀ (f : For) (out : List (List Int)) (t : List Int), f.cnt ≠ 0 → ctRun f.enc (out, t, (f.cnt : Int)) = (out ++ [t ++ f.enc], [], 1)
  | For.nil, out, t, h => absurd rfl h
  | For.node c r, out, t, h => by
    rw [For.enc, ctRun_cons, ctStep]
    simp only
    have e : ((For.node c r).cnt : Int) + ((c.cnt : Int) - 1) = (r.cnt : Int) + c.cnt := by rw [For.cnt]; omega
    rw [e]
    by_cases hr : r.cnt = 0
    · have := For.cnt_zero hr
      subst this
      by_cases hc : c.cnt = 0
      · have := For.cnt_zero hc
        subst this
        simp [For.enc, For.cnt, ctRun_nil]
      · rw [if_neg (by omega), ctRun_app, show ((For.nil.cnt : Nat) : Int) + (c.cnt : Int) = c.cnt by simp [For.cnt], ctRun_close c _ _ hc]
        simp [For.enc, ctRun_nil]
    · rw [if_neg (by omega), ctRun_app, ctRun_open c _ _ _ (by omega), show (r.cnt : Int) + c.cnt - c.cnt = r.cnt by omega, ctRun_close r _ _ hr]
      simp
theorem ctRun_trs : ∀ (f : For) (out : List (List Int)), ctRun f.enc (out, [], 1) = (out ++ f.trs, [], 1)
  | For.nil, out => by simp [For.enc, For.trs, ctRun_nil]
  | For.node c r, out => by
    rw [For.enc, ctRun_cons, ctStep]
    simp only
    rw [show (1 : Int) + ((c.cnt : Int) - 1) = c.cnt by omega]
    by_cases hc : c.cnt = 0
    · have := For.cnt_zero hc
      subst this
      rw [if_pos (by simp [For.cnt]), ctRun_app, For.enc, ctRun_nil, ctRun_trs r]
      simp [For.trs, For.enc, For.cnt]
    · rw [if_neg (by omega), ctRun_app, ctRun_close c _ _ hc, ctRun_trs r]
      simp [For.trs]
theorem ctRun_snoc (xs : List Int) (k : Nat) (hk : k < xs.length) (s : List (List Int) × List Int × Int) : ctRun (xs.take (k + 1)) s = ctStep (ctRun (xs.take k) s) (xs.getD k 0) := by
  rw [List.take_succ_eq_append_getElem hk, ctRun_app, List.getD_eq_getElem?_getD, List.getElem?_eq_getElem hk]
  rfl
theorem ctRun_bd (xs : List Int) (h : ∀ k, k < xs.length → 0 ≤ xs.getD k 0 ∧ xs.getD k 0 ≤ 16) : ∀ k, k ≤ xs.length → -(k : Int) ≤ (ctRun (xs.take k) ([], [], 1)).2.2 ∧ (ctRun (xs.take k) ([], [], 1)).2.2 ≤ 1 + 15 * (k : Int) ∧ (ctRun (xs.take k) ([], [], 1)).1.length ≤ k ∧ (ctRun (xs.take k) ([], [], 1)).2.1.length ≤ k
  | 0, _ => by simp [ctRun_nil]
  | k + 1, hk => by
    have h1 := ctRun_bd xs h k (by omega)
    have h2 := h k (by omega)
    rw [ctRun_snoc xs k (by omega)]
    generalize ctRun (xs.take k) ([], [], 1) = s at *
    generalize xs.getD k 0 = d at *
    unfold ctStep
    split
    · simp; omega
    · simp; omega
/-- the waiting nodes, the last one first, with the number of children that they still wait for: those that wait for none fall off -/
def norm : List (Int × Int) → List (Int × Int)
  | [] => []
  | (n, l) :: S => if l = 0 then norm S else (n, l) :: S
theorem norm_pos {n l : Int} {S : List (Int × Int)} (h : l ≠ 0) : norm ((n, l) :: S) = (n, l) :: S := by rw [norm, if_neg h]
theorem norm_zero {n : Int} {S : List (Int × Int)} : norm ((n, 0) :: S) = norm S := by rw [norm, if_pos rfl]
theorem norm_length : ∀ S : List (Int × Int), (norm S).length ≤ S.length
  | [] => Nat.le_refl _
  | (n, l) :: S => by
    rw [norm]
    split
    · have := norm_length S; rw [List.length_cons]; omega
    · exact Nat.le_refl _
/-- one node read: its parent; the nodes that wait behind it -/
def cpOut (S : List (Int × Int)) : Int := match S with | [] => -1 | (n, _) :: _ => n
def cpTake (S : List (Int × Int)) : List (Int × Int) := match S with | [] => [] | (n, l) :: S => (n, l - 1) :: S
def cpStep (s : List Int × List (Int × Int)) (d : Int) : List Int × List (Int × Int) :=
  (s.1 ++ [cpOut s.2], norm (((s.1.length : Int), d) :: cpTake s.2))
def cpRun (xs : List Int) (s : List Int × List (Int × Int)) : List Int × List (Int × Int) := xs.foldl cpStep s
theorem cpRun_cons (d : Int) (xs : List Int) (s : List Int × List (Int × Int)) : cpRun (d :: xs) s = cpRun xs (cpStep s d) := rfl
theorem cpRun_app (xs ys : List Int) (s : List Int × List (Int × Int)) : cpRun (xs ++ ys) s = cpRun ys (cpRun xs s) := List.foldl_append ..
theorem cpRun_snoc (xs : List Int) (k : Nat) (hk : k < xs.length) (s : List Int × List (Int × Int)) : cpRun (xs.take (k + 1)) s = cpStep (cpRun (xs.take k) s) (xs.getD k 0) := by
  rw [List.take_succ_eq_append_getElem hk, cpRun_app, List.getD_eq_getElem?_getD, List.getElem?_eq_getElem hk]
  rfl
theorem cpRun_in : ∀ (f : For) (o : List Int) (p l : Int) (S : List (Int × Int)), (f.cnt : Int) ≤ l → l ≠ 0 →
    cpRun f.enc (o, (p, l) :: S) = (o ++ f.par o.length p, norm ((p, l - f.cnt) :: S))
  | For.nil, o, p, l, S, h, h0 => by simp [For.enc, For.cnt, For.par, cpRun, norm_pos h0]
  | For.node c r, o, p, l, S, h, h0 => by
    rw [For.cnt] at h
    have e : cpStep (o, (p, l) :: S) (c.cnt : Int) = (o ++ [p], norm (((o.length : Int), (c.cnt : Int)) :: (p, l - 1) :: S)) := rfl
    have e2 : cpRun c.enc (o ++ [p], norm (((o.length : Int), (c.cnt : Int)) :: (p, l - 1) :: S)) = (o ++ [p] ++ c.par ((o.length : Int) + 1) o.length, norm ((p, l - 1) :: S)) := by
      by_cases hc : c.cnt = 0
      · have := For.cnt_zero hc
        subst this
        simp [For.enc, For.cnt, For.par, cpRun, norm_zero]
      · rw [norm_pos (by omega), cpRun_in c _ _ _ _ (Int.le_refl _) (by omega), Int.sub_self, norm_zero]
        simp
    rw [For.enc, cpRun_cons, cpRun_app, e, e2, For.par, For.cnt]
    by_cases hr : r.cnt = 0
    · have := For.cnt_zero hr
      subst this
      simp [For.enc, For.cnt, For.par, cpRun]
    · rw [norm_pos (by omega), cpRun_in r _ _ _ _ (by omega) (by omega)]
      simp only [List.length_append, List.length_cons, List.length_nil, For.par_length, Prod.mk.injEq]
      refine ⟨?_, by congr 3; omega⟩
      simp only [List.append_assoc, List.cons_append, List.nil_append, List.append_cancel_left_eq, List.cons.injEq, true_and]
      congr 2
theorem cpRun_top : ∀ (f : For) (o : List Int), cpRun f.enc (o, []) = (o ++ f.par o.length (-1), [])
  | For.nil, o => by simp [For.enc, For.par, cpRun]
  | For.node c r, o => by
    have e : cpStep (o, []) (c.cnt : Int) = (o ++ [-1], norm [((o.length : Int), (c.cnt : Int))]) := rfl
    have e2 : cpRun c.enc (o ++ [-1], norm [((o.length : Int), (c.cnt : Int))]) = (o ++ [-1] ++ c.par ((o.length : Int) + 1) o.length, []) := by
      by_cases hc : c.cnt = 0
      · have := For.cnt_zero hc
        subst this
        simp [For.enc, For.cnt, For.par, cpRun, norm_zero, norm]
      · rw [norm_pos (by omega), cpRun_in c _ _ _ _ (Int.le_refl _) (by omega), Int.sub_self, norm_zero]
        simp [norm]
    rw [For.enc, cpRun_cons, cpRun_app, e, e2, For.par, cpRun_top r]
    simp only [List.length_append, List.length_cons, List.length_nil, For.par_length, Prod.mk.injEq, and_true]
    simp only [List.append_assoc, List.cons_append, List.nil_append, List.append_cancel_left_eq, List.cons.injEq, true_and]
    congr 2
end Go.Proofs.Ytgajknnfmnnfeaa
