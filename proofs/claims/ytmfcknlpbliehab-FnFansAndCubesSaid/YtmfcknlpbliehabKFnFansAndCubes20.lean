/- Pack 20 of what FnFansAndCubes needs: ToCs, ForMath, ForMath2. -/
import Derived.Test.YtmfcknlpbliehabKFnFansAndCubes19
/- The laws' copies of cells. -/
namespace Go.Proofs.Ytmfcknlpbliehab
open Go.RowKit
set_option linter.unusedVariables false
def cpF (xs : List Int) (k j : Nat) : Int := if j < k * 2 then xs.getD j 0 else 0
theorem fr_ext {f g : Nat → Int} {n : Nat} (h : ∀ j, j < n → f j = g j) : fr f n = fr g n := by
  apply List.ext_getElem?
  intro j
  rcases Nat.lt_or_ge j n with hj | hj
  · have h1 := fr_get f n j hj
    have h2 := fr_get g n j hj
    rw [List.getD_eq_getElem?_getD] at h1 h2
    rw [List.getElem?_eq_getElem (by rw [fr_length]; exact hj), Option.getD_some] at h1 h2
    rw [List.getElem?_eq_getElem (by rw [fr_length]; exact hj), List.getElem?_eq_getElem (by rw [fr_length]; exact hj), h1, h2, h j hj]
  · rw [List.getElem?_eq_none (by rw [fr_length]; exact hj), List.getElem?_eq_none (by rw [fr_length]; exact hj)]
theorem cpF_zero (xs : List Int) (n : Nat) : List.replicate (n * 2) (0 : Int) = fr (cpF xs 0) (n * 2) := by
  apply List.ext_getElem?
  intro j
  rcases Nat.lt_or_ge j (n * 2) with hj | hj
  · have h1 := fr_get (cpF xs 0) (n * 2) j hj
    rw [List.getD_eq_getElem?_getD, List.getElem?_eq_getElem (by rw [fr_length]; exact hj), Option.getD_some] at h1
    rw [List.getElem?_replicate, if_pos hj, List.getElem?_eq_getElem (by rw [fr_length]; exact hj), h1]
    simp [cpF]
  · rw [List.getElem?_eq_none (by simpa using hj), List.getElem?_eq_none (by rw [fr_length]; exact hj)]
theorem cpF_set (xs : List Int) {n k : Nat} (hk : k < n) : ((fr (cpF xs k) (n * 2)).set (k * 2) (xs.getD (k * 2) 0)).set (k * 2 + 1) (xs.getD (k * 2 + 1) 0) = fr (cpF xs (k + 1)) (n * 2) := by
  obtain ⟨p, hp⟩ : ∃ p, xs.getD (k * 2) 0 = p := ⟨_, rfl⟩
  obtain ⟨q, hq⟩ : ∃ q, xs.getD (k * 2 + 1) 0 = q := ⟨_, rfl⟩
  rw [hp, hq]
  have hlen : ∀ f : Nat → Int, (fr f (n * 2)).length = n * 2 := fun f => fr_length f _
  apply List.ext_getElem (by simp [hlen])
  intro j h1 h2
  have hj : j < n * 2 := by rw [hlen] at h2; exact h2
  have g0 : ∀ f : Nat → Int, ∀ h : j < (fr f (n * 2)).length, (fr f (n * 2))[j] = f j := fun f h => by simp [fr]
  rw [List.getElem_set, List.getElem_set, g0]
  split
  · next e => subst e; rw [← hq, g0]; exact (if_pos (show k * 2 + 1 < (k + 1) * 2 by omega)).symm
  · split
    · next e => subst e; rw [← hp, g0]; exact (if_pos (show k * 2 < (k + 1) * 2 by omega)).symm
    · rw [g0]
      unfold cpF
      by_cases h : j < k * 2
      · rw [if_pos h, if_pos (by omega)]
      · rw [if_neg h, if_neg (by omega)]
theorem CRow.rcels {w : World} {B n : Nat} {v : Value} {ys xs : List Int} (h : CRow w B v n ys) (hr : ∀ A k c, v = .slice A k c → k ≤ c ∧ c ≤ maxLen) (he : ∀ j, j < n * 2 → ys.getD j 0 = xs.getD j 0) : RCels w v n xs := by
  refine ⟨h.shape, hr, fun hx => ?_⟩
  obtain ⟨g, c, rfl, _, hg⟩ := h.form hx
  exact ⟨g, 0, c, rfl, hg, fun j hj => by rw [Nat.zero_add, ← he j hj]; exact h.cell hj⟩
end Go.Proofs.Ytmfcknlpbliehab

/- Forests as first child and next sibling; their lists of degrees. -/
namespace Go.Proofs.Ytmfcknlpbliehab
open Go.RowKit
set_option linter.unusedVariables false
inductive For where
  | nil : For
  | node (c r : For) : For
namespace For
def cnt : For → Nat
  | nil => 0
  | node _ r => cnt r + 1
def enc : For → List Int
  | nil => []
  | node c r => (cnt c : Int) :: (enc c ++ enc r)
def size : For → Nat
  | nil => 0
  | node c r => size c + size r + 1
theorem enc_length : ∀ f : For, f.enc.length = f.size
  | nil => rfl
  | node c r => by rw [enc, size, List.length_cons, List.length_append, enc_length c, enc_length r]
def app : For → For → For
  | nil, g => g
  | node c r, g => node c (app r g)
theorem cnt_app : ∀ f g : For, (app f g).cnt = f.cnt + g.cnt
  | nil, g => by rw [app, cnt, Nat.zero_add]
  | node c r, g => by rw [app, cnt, cnt, cnt_app r g]; omega
theorem enc_app : ∀ f g : For, (app f g).enc = f.enc ++ g.enc
  | nil, g => by rw [app, enc, List.nil_append]
  | node c r, g => by rw [app, enc, enc, enc_app r g, List.cons_append, List.append_assoc]
theorem split : ∀ (g : For) (a b : Nat), g.cnt = a + b → ∃ g1 g2 : For, g = app g1 g2 ∧ g1.cnt = a ∧ g2.cnt = b
  | g, 0, b, h => ⟨nil, g, rfl, rfl, by omega⟩
  | nil, a + 1, b, h => by rw [cnt] at h; omega
  | node c r, a + 1, b, h => by
    rw [cnt] at h
    obtain ⟨g1, g2, e, h1, h2⟩ := split r a b (by omega)
    exact ⟨node c g1, g2, by rw [app, e], by rw [cnt, h1], h2⟩
theorem cnt_le : ∀ f : For, f.cnt ≤ f.size
  | nil => Nat.le_refl _
  | node c r => by have := cnt_le r; rw [cnt, size]; omega
theorem cnt_pos {f : For} (h : f.cnt ≠ 0) : ∃ c r, f = node c r := by
  cases f with
  | nil => exact absurd rfl h
  | node c r => exact ⟨c, r, rfl⟩
theorem cnt_zero {f : For} (h : f.cnt = 0) : f = nil := by
  cases f with
  | nil => rfl
  | node c r => rw [cnt] at h; omega
/-- the trees of a forest -/
def trs : For → List (List Int)
  | nil => []
  | node c r => ((cnt c : Int) :: enc c) :: trs r
theorem trs_length : ∀ f : For, f.trs.length = f.cnt
  | nil => rfl
  | node c r => by rw [trs, cnt, List.length_cons, trs_length r]
/-- the parents -/
def par : For → Int → Int → List Int
  | nil, _, _ => []
  | node c r, i, p => p :: (par c (i + 1) i ++ par r (i + 1 + c.size) p)
theorem par_length : ∀ (f : For) (i p : Int), (f.par i p).length = f.size
  | nil, _, _ => rfl
  | node c r, i, p => by rw [par, size, List.length_cons, List.length_append, par_length c, par_length r]
/-- what a walk tells: the node, its parent, the index behind all below it -/
def evs : For → Nat → Int → List (Nat × Int × Nat)
  | nil, _, _ => []
  | node c r, i, p => evs c (i + 1) (i : Int) ++ ((i, p, i + 1 + c.size) :: evs r (i + 1 + c.size) p)
theorem evs_length : ∀ (f : For) (i : Nat) (p : Int), (f.evs i p).length = f.size
  | nil, _, _ => rfl
  | node c r, i, p => by rw [evs, size, List.length_append, List.length_cons, evs_length c, evs_length r]; omega
/-- the mirrored forest -/
def mir : For → List Int
  | nil => []
  | node c r => mir r ++ (cnt c : Int) :: mir c
theorem mir_length : ∀ f : For, f.mir.length = f.size
  | nil => rfl
  | node c r => by rw [mir, size, List.length_append, List.length_cons, mir_length c, mir_length r]; omega
/-- the path: U is true -/
def path : For → List Bool
  | nil => []
  | node c r => true :: (path c ++ false :: path r)
theorem path_length : ∀ f : For, f.path.length = 2 * f.size
  | nil => rfl
  | node c r => by rw [path, size, List.length_cons, List.length_append, List.length_cons, path_length c, path_length r]; omega
end For
def setAll (L : List Int) (es : List (Nat × Int × Nat)) : List Int := es.foldl (fun L e => L.set e.1 e.2.1) L
theorem setAll_app (L : List Int) (a b : List (Nat × Int × Nat)) : setAll L (a ++ b) = setAll (setAll L a) b := List.foldl_append ..
theorem setAll_snoc (L : List Int) (a : List (Nat × Int × Nat)) (e : Nat × Int × Nat) : setAll L (a ++ [e]) = (setAll L a).set e.1 e.2.1 := by rw [setAll_app]; rfl
theorem setAll_length : ∀ (es : List (Nat × Int × Nat)) (L : List Int), (setAll L es).length = L.length
  | [], _ => rfl
  | e :: es, L => by
    show (setAll (L.set e.1 e.2.1) es).length = _
    rw [setAll_length es, List.length_set]
theorem set_mid (a b : List Int) (x y : Int) : (a ++ x :: b).set a.length y = a ++ y :: b := by
  rw [List.set_append, if_neg (by omega), Nat.sub_self, List.set_cons_zero]
theorem setAll_evs : ∀ (f : For) (a m b : List Int) (p : Int), m.length = f.size → setAll (a ++ m ++ b) (f.evs a.length p) = a ++ f.par a.length p ++ b
  | For.nil, a, m, b, p, h => by
    have : m = [] := List.eq_nil_of_length_eq_zero h
    subst this
    rfl
  | For.node c r, a, m, b, p, h => by
    rw [For.size] at h
    obtain ⟨x, m1, m2, rfl, h1, h2⟩ : ∃ x m1 m2, m = x :: (m1 ++ m2) ∧ m1.length = c.size ∧ m2.length = r.size := by
      cases m with
      | nil => simp at h
      | cons x m =>
        refine ⟨x, m.take c.size, m.drop c.size, by rw [List.take_append_drop], ?_, ?_⟩
        · rw [List.length_take]; simp at h; omega
        · rw [List.length_drop]; simp at h; omega
    rw [For.evs, setAll_app]
    have e1 : a ++ x :: (m1 ++ m2) ++ b = (a ++ [x]) ++ m1 ++ (m2 ++ b) := by simp
    have e2 : (a ++ [x]).length = a.length + 1 := by simp
    have k1 := setAll_evs c (a ++ [x]) m1 (m2 ++ b) (a.length : Int) h1
    rw [e2] at k1
    rw [e1, k1]
    show setAll ((a ++ [x] ++ c.par _ _ ++ (m2 ++ b)).set a.length p) _ = _
    have e3 : a ++ [x] ++ c.par ((a.length + 1 : Nat) : Int) (a.length : Int) ++ (m2 ++ b) = a ++ x :: (c.par ((a.length + 1 : Nat) : Int) (a.length : Int) ++ (m2 ++ b)) := by simp
    rw [e3, set_mid]
    have e4 : a ++ p :: (c.par ((a.length + 1 : Nat) : Int) (a.length : Int) ++ (m2 ++ b)) = (a ++ p :: c.par ((a.length + 1 : Nat) : Int) (a.length : Int)) ++ m2 ++ b := by simp
    have e5 : (a ++ p :: c.par ((a.length + 1 : Nat) : Int) (a.length : Int)).length = a.length + 1 + c.size := by simp [For.par_length]; omega
    have k2 := setAll_evs r (a ++ p :: c.par ((a.length + 1 : Nat) : Int) (a.length : Int)) m2 b p h2
    rw [e5] at k2
    rw [e4, k2, For.par]
    simp
/-- the trees among what a walk tells -/
def topsOf (es : List (Nat × Int × Nat)) : List (Nat × Nat) := (es.filter fun e => e.2.1 == -1).map fun e => (e.1, e.2.2)
def For.tops : For → Nat → List (Nat × Nat)
  | For.nil, _ => []
  | For.node c r, i => (i, i + 1 + c.size) :: For.tops r (i + 1 + c.size)
theorem topsOf_app (a b : List (Nat × Int × Nat)) : topsOf (a ++ b) = topsOf a ++ topsOf b := by simp [topsOf]
theorem tops_in : ∀ (f : For) (i : Nat) (p : Int), 0 ≤ p → topsOf (f.evs i p) = []
  | For.nil, _, _, _ => rfl
  | For.node c r, i, p, h => by
    rw [For.evs, topsOf_app, tops_in c (i + 1) i (by omega)]
    have := tops_in r (i + 1 + c.size) p h
    unfold topsOf at *
    rw [List.filter_cons_of_neg (by simp; omega), this]
    rfl
theorem tops_evs : ∀ (f : For) (i : Nat), topsOf (f.evs i (-1)) = f.tops i
  | For.nil, _ => rfl
  | For.node c r, i => by
    rw [For.evs, topsOf_app, tops_in c (i + 1) i (by omega), For.tops]
    have := tops_evs r (i + 1 + c.size)
    unfold topsOf at *
    rw [List.filter_cons_of_pos (by simp), List.map_cons, this]
    rfl
theorem topsOf_len (es : List (Nat × Int × Nat)) : (topsOf es).length ≤ es.length := by
  unfold topsOf
  rw [List.length_map]
  exact List.length_filter_le ..
theorem For.tops_length : ∀ (f : For) (i : Nat), (f.tops i).length = f.cnt
  | For.nil, _ => rfl
  | For.node c r, i => by rw [For.tops, For.cnt, List.length_cons, For.tops_length r]
theorem tops_bd : ∀ (f : For) (i : Nat), ∀ e ∈ f.tops i, i ≤ e.1 ∧ e.1 ≤ e.2 ∧ e.2 ≤ i + f.size
  | For.nil, i, e, h => by simp [For.tops] at h
  | For.node c r, i, e, h => by
    rw [For.tops, List.mem_cons] at h
    rw [For.size]
    rcases h with rfl | h
    · simp only; omega
    · have := tops_bd r _ e h; omega
/-- the parts of a list that are its trees -/
theorem tops_trs : ∀ (f : For) (a b : List Int), (f.tops a.length).map (fun e => ((a ++ f.enc ++ b).drop e.1).take (e.2 - e.1)) = f.trs
  | For.nil, _, _ => rfl
  | For.node c r, a, b => by
    rw [For.tops, For.trs, List.map_cons]
    have e5 : (a ++ (c.cnt : Int) :: c.enc).length = a.length + 1 + c.size := by simp [For.enc_length]; omega
    have k2 := tops_trs r (a ++ (c.cnt : Int) :: c.enc) b
    rw [e5] at k2
    have e6 : a ++ (For.node c r).enc ++ b = a ++ (c.cnt : Int) :: c.enc ++ r.enc ++ b := by rw [For.enc]; simp
    rw [e6, k2]
    congr 1
    simp only
    rw [show a ++ (c.cnt : Int) :: c.enc ++ r.enc ++ b = a ++ ((c.cnt : Int) :: c.enc ++ (r.enc ++ b)) by simp, List.drop_left, show a.length + 1 + c.size - a.length = ((c.cnt : Int) :: c.enc).length by simp [For.enc_length]; omega, List.take_left]
/-- a list that awaits a nodes at first, at least 1 ahead of each node, none behind, is a forest of a trees -/
theorem parse : ∀ (xs : List Int) (a : Int), (∀ k, k < xs.length → 0 ≤ xs.getD k 0) → (∀ k, k < xs.length → 1 ≤ a + sumT xs k - (k : Int)) → a + sumT xs xs.length - (xs.length : Int) = 0 → ∃ f : For, f.enc = xs ∧ (f.cnt : Int) = a
  | [], a, _, _, h => ⟨For.nil, rfl, by simp [sumT] at h; rw [For.cnt]; omega⟩
  | d :: ys, a, h0, h1, h2 => by
    have hs : ∀ k, sumT (d :: ys) (k + 1) = d + sumT ys k := fun k => by unfold sumT; rw [List.take_succ_cons, List.sum_cons]
    have hd := h0 0 (by simp)
    simp only [List.getD_cons_zero] at hd
    have ha := h1 0 (by simp)
    rw [sumT_0] at ha
    obtain ⟨g, e1, e2⟩ := parse ys (a - 1 + d) (fun k hk => by have := h0 (k + 1) (by simpa using hk); simpa using this)
      (fun k hk => by have := h1 (k + 1) (by simpa using hk); rw [hs] at this; omega)
      (by rw [List.length_cons, hs] at h2; omega)
    obtain ⟨n, rfl⟩ := Int.eq_ofNat_of_zero_le hd
    obtain ⟨m, hm⟩ := Int.eq_ofNat_of_zero_le (show 0 ≤ a - 1 by omega)
    obtain ⟨g1, g2, rfl, c1, c2⟩ := For.split g n m (by omega)
    refine ⟨For.node g1 g2, ?_, by rw [For.cnt]; omega⟩
    rw [For.enc, ← For.enc_app, e1, c1]
theorem upB_all {xs : List Int} {r : Int} : ∀ n, upB xs r n = true → ∀ k, k < n → k + 1 < xs.length → -r < sumT xs (k + 1) - ((k + 1 : Nat) : Int)
  | 0, _, k, hk, _ => by omega
  | n + 1, h, k, hk, hl => by
    rw [upB, Bool.and_eq_true, Bool.not_eq_true', Bool.and_eq_false_iff, decide_eq_false_iff_not, decide_eq_false_iff_not] at h
    by_cases e : k = n
    · subst e
      rcases h.2 with h2 | h2 <;> omega
    · exact upB_all n h.1 k (by omega) hl
/-- degrees that are a forest -/
theorem forest_of {xs : List Int} (hd : degB xs = true) (hf : forB xs = true) : ∃ f : For, f.enc = xs ∧ (f.cnt : Int) = exc xs := by
  unfold forB at hf
  rw [Bool.and_eq_true, decide_eq_true_iff] at hf
  refine parse xs (exc xs) (fun k hk => ((degB_of hd).2 k hk).1) (fun k hk => ?_) (by unfold exc; omega)
  cases k with
  | zero => rw [sumT_0]; omega
  | succ k => have := upB_all _ hf.2 k (by omega) hk; omega
end Go.Proofs.Ytmfcknlpbliehab

/- What the model's loops over a forest's degrees come to: trees, parents, paths. -/
namespace Go.Proofs.Ytmfcknlpbliehab
open Go.RowKit
set_option linter.unusedVariables false
/-- the trees of a list: what is read so far, the tree at hand, the nodes that it awaits -/
def ctStep (s : List (List Int) × List Int × Int) (d : Int) : List (List Int) × List Int × Int :=
  if s.2.2 + (d - 1) = 0 then (s.1 ++ [s.2.1 ++ [d]], [], 1) else (s.1, s.2.1 ++ [d], s.2.2 + (d - 1))
def ctRun (xs : List Int) (s : List (List Int) × List Int × Int) : List (List Int) × List Int × Int := xs.foldl ctStep s
theorem ctRun_nil (s : List (List Int) × List Int × Int) : ctRun [] s = s := rfl
theorem ctRun_cons (d : Int) (xs : List Int) (s : List (List Int) × List Int × Int) : ctRun (d :: xs) s = ctRun xs (ctStep s d) := rfl
theorem ctRun_app (xs ys : List Int) (s : List (List Int) × List Int × Int) : ctRun (xs ++ ys) s = ctRun ys (ctRun xs s) := List.foldl_append ..
theorem ctRun_open : ∀ (f : For) (out : List (List Int)) (t : List Int) (o : Int), (f.cnt : Int) + 1 ≤ o → ctRun f.enc (out, t, o) = (out, t ++ f.enc, o - f.cnt)
  | For.nil, out, t, o, h => by simp [For.enc, For.cnt, ctRun_nil]
  | For.node c r, out, t, o, h => by
    rw [For.cnt] at h
    rw [For.enc, ctRun_cons, ctStep, if_neg (by show ¬ o + ((c.cnt : Int) - 1) = 0; omega), ctRun_app, ctRun_open c _ _ _ (by show (c.cnt : Int) + 1 ≤ o + ((c.cnt : Int) - 1); omega), ctRun_open r _ _ _ (by show (r.cnt : Int) + 1 ≤ o + ((c.cnt : Int) - 1) - c.cnt; omega)]
    rw [For.cnt]
    simp only [Prod.mk.injEq, true_and]
    refine ⟨by simp, by omega⟩
theorem ctRun_close : ∀ (f : For) (out : List (List Int)) (t : List Int), f.cnt ≠ 0 → ctRun f.enc (out, t, (f.cnt : Int)) = (out ++ [t ++ f.enc], [], 1)
  | For.nil, out, t, h => absurd rfl h
  | For.node c r, out, t, h => by
    rw [For.enc, ctRun_cons, ctStep]
    simp only
    have e : ((For.node c r).cnt : Int) + ((c.cnt : Int) - 1) = (r.cnt : Int) + c.cnt := by rw [For.cnt]; omega
    rw [e]
    by_cases hr : r.cnt = 0
    · have := For.cnt_zero hr
      subst this
      by_cases hc : c.cnt = 0
      · have := For.cnt_zero hc
        subst this
        simp [For.enc, For.cnt, ctRun_nil]
      · rw [if_neg (by omega), ctRun_app, show ((For.nil.cnt : Nat) : Int) + (c.cnt : Int) = c.cnt by simp [For.cnt], ctRun_close c _ _ hc]
        simp [For.enc, ctRun_nil]
    · rw [if_neg (by omega), ctRun_app, ctRun_open c _ _ _ (by omega), show (r.cnt : Int) + c.cnt - c.cnt = r.cnt by omega, ctRun_close r _ _ hr]
      simp
theorem ctRun_trs : ∀ (f : For) (out : List (List Int)), ctRun f.enc (out, [], 1) = (out ++ f.trs, [], 1)
  | For.nil, out => by simp [For.enc, For.trs, ctRun_nil]
  | For.node c r, out => by
    rw [For.enc, ctRun_cons, ctStep]
    simp only
    rw [show (1 : Int) + ((c.cnt : Int) - 1) = c.cnt by omega]
    by_cases hc : c.cnt = 0
    · have := For.cnt_zero hc
      subst this
      rw [if_pos (by simp [For.cnt]), ctRun_app, For.enc, ctRun_nil, ctRun_trs r]
      simp [For.trs, For.enc, For.cnt]
    · rw [if_neg (by omega), ctRun_app, ctRun_close c _ _ hc, ctRun_trs r]
      simp [For.trs]
theorem ctRun_snoc (xs : List Int) (k : Nat) (hk : k < xs.length) (s : List (List Int) × List Int × Int) : ctRun (xs.take (k + 1)) s = ctStep (ctRun (xs.take k) s) (xs.getD k 0) := by
  rw [List.take_succ_eq_append_getElem hk, ctRun_app, List.getD_eq_getElem?_getD, List.getElem?_eq_getElem hk]
  rfl
theorem ctRun_bd (xs : List Int) (h : ∀ k, k < xs.length → 0 ≤ xs.getD k 0 ∧ xs.getD k 0 ≤ 16) : ∀ k, k ≤ xs.length → -(k : Int) ≤ (ctRun (xs.take k) ([], [], 1)).2.2 ∧ (ctRun (xs.take k) ([], [], 1)).2.2 ≤ 1 + 15 * (k : Int) ∧ (ctRun (xs.take k) ([], [], 1)).1.length ≤ k ∧ (ctRun (xs.take k) ([], [], 1)).2.1.length ≤ k
  | 0, _ => by simp [ctRun_nil]
  | k + 1, hk => by
    have h1 := ctRun_bd xs h k (by omega)
    have h2 := h k (by omega)
    rw [ctRun_snoc xs k (by omega)]
    generalize ctRun (xs.take k) ([], [], 1) = s at *
    generalize xs.getD k 0 = d at *
    unfold ctStep
    split
    · simp; omega
    · simp; omega
/-- the waiting nodes, the last one first, with the number of children that they still wait for: those that wait for none fall off -/
def norm : List (Int × Int) → List (Int × Int)
  | [] => []
  | (n, l) :: S => if l = 0 then norm S else (n, l) :: S
theorem norm_pos {n l : Int} {S : List (Int × Int)} (h : l ≠ 0) : norm ((n, l) :: S) = (n, l) :: S := by rw [norm, if_neg h]
theorem norm_zero {n : Int} {S : List (Int × Int)} : norm ((n, 0) :: S) = norm S := by rw [norm, if_pos rfl]
theorem norm_length : ∀ S : List (Int × Int), (norm S).length ≤ S.length
  | [] => Nat.le_refl _
  | (n, l) :: S => by
    rw [norm]
    split
    · have := norm_length S; rw [List.length_cons]; omega
    · exact Nat.le_refl _
/-- one node read: its parent; the nodes that wait behind it -/
def cpOut (S : List (Int × Int)) : Int := match S with | [] => -1 | (n, _) :: _ => n
def cpTake (S : List (Int × Int)) : List (Int × Int) := match S with | [] => [] | (n, l) :: S => (n, l - 1) :: S
def cpStep (s : List Int × List (Int × Int)) (d : Int) : List Int × List (Int × Int) :=
  (s.1 ++ [cpOut s.2], norm (((s.1.length : Int), d) :: cpTake s.2))
def cpRun (xs : List Int) (s : List Int × List (Int × Int)) : List Int × List (Int × Int) := xs.foldl cpStep s
theorem cpRun_cons (d : Int) (xs : List Int) (s : List Int × List (Int × Int)) : cpRun (d :: xs) s = cpRun xs (cpStep s d) := rfl
theorem cpRun_app (xs ys : List Int) (s : List Int × List (Int × Int)) : cpRun (xs ++ ys) s = cpRun ys (cpRun xs s) := List.foldl_append ..
theorem cpRun_snoc (xs : List Int) (k : Nat) (hk : k < xs.length) (s : List Int × List (Int × Int)) : cpRun (xs.take (k + 1)) s = cpStep (cpRun (xs.take k) s) (xs.getD k 0) := by
  rw [List.take_succ_eq_append_getElem hk, cpRun_app, List.getD_eq_getElem?_getD, List.getElem?_eq_getElem hk]
  rfl
theorem cpRun_in : ∀ (f : For) (o : List Int) (p l : Int) (S : List (Int × Int)), (f.cnt : Int) ≤ l → l ≠ 0 →
    cpRun f.enc (o, (p, l) :: S) = (o ++ f.par o.length p, norm ((p, l - f.cnt) :: S))
  | For.nil, o, p, l, S, h, h0 => by simp [For.enc, For.cnt, For.par, cpRun, norm_pos h0]
  | For.node c r, o, p, l, S, h, h0 => by
    rw [For.cnt] at h
    have e : cpStep (o, (p, l) :: S) (c.cnt : Int) = (o ++ [p], norm (((o.length : Int), (c.cnt : Int)) :: (p, l - 1) :: S)) := rfl
    have e2 : cpRun c.enc (o ++ [p], norm (((o.length : Int), (c.cnt : Int)) :: (p, l - 1) :: S)) = (o ++ [p] ++ c.par ((o.length : Int) + 1) o.length, norm ((p, l - 1) :: S)) := by
      by_cases hc : c.cnt = 0
      · have := For.cnt_zero hc
        subst this
        simp [For.enc, For.cnt, For.par, cpRun, norm_zero]
      · rw [norm_pos (by omega), cpRun_in c _ _ _ _ (Int.le_refl _) (by omega), Int.sub_self, norm_zero]
        simp
    rw [For.enc, cpRun_cons, cpRun_app, e, e2, For.par, For.cnt]
    by_cases hr : r.cnt = 0
    · have := For.cnt_zero hr
      subst this
      simp [For.enc, For.cnt, For.par, cpRun]
    · rw [norm_pos (by omega), cpRun_in r _ _ _ _ (by omega) (by omega)]
      simp only [List.length_append, List.length_cons, List.length_nil, For.par_length, Prod.mk.injEq]
      refine ⟨?_, by congr 3; omega⟩
      simp only [List.append_assoc, List.cons_append, List.nil_append, List.append_cancel_left_eq, List.cons.injEq, true_and]
      congr 2
theorem cpRun_top : ∀ (f : For) (o : List Int), cpRun f.enc (o, []) = (o ++ f.par o.length (-1), [])
  | For.nil, o => by simp [For.enc, For.par, cpRun]
  | For.node c r, o => by
    have e : cpStep (o, []) (c.cnt : Int) = (o ++ [-1], norm [((o.length : Int), (c.cnt : Int))]) := rfl
    have e2 : cpRun c.enc (o ++ [-1], norm [((o.length : Int), (c.cnt : Int))]) = (o ++ [-1] ++ c.par ((o.length : Int) + 1) o.length, []) := by
      by_cases hc : c.cnt = 0
      · have := For.cnt_zero hc
        subst this
        simp [For.enc, For.cnt, For.par, cpRun, norm_zero, norm]
      · rw [norm_pos (by omega), cpRun_in c _ _ _ _ (Int.le_refl _) (by omega), Int.sub_self, norm_zero]
        simp [norm]
    rw [For.enc, cpRun_cons, cpRun_app, e, e2, For.par, cpRun_top r]
    simp only [List.length_append, List.length_cons, List.length_nil, For.par_length, Prod.mk.injEq, and_true]
    simp only [List.append_assoc, List.cons_append, List.nil_append, List.append_cancel_left_eq, List.cons.injEq, true_and]
    congr 2
end Go.Proofs.Ytmfcknlpbliehab
