/- Pack 20 of what FnRotationsGood needs: FfMath, FirstI. -/
import Derived.Test.YtmfcknlpbliehabKFnRotationsGood19
import Derived.Lib.SliceRun
/- The first forest of counts: always the least degree with which all can go on. -/
namespace Go.Proofs.Ytmfcknlpbliehab
open Go.RowKit
set_option linter.unusedVariables false
def nx (L : List Int) : Nat → Nat → Nat
  | d, 0 => d
  | d, f + 1 => if 0 < L.getD d 0 then d else nx L (d + 1) f
theorem nx_spec (L : List Int) : ∀ (f d j : Nat), d ≤ j → j < d + f → 0 < L.getD j 0 → d ≤ nx L d f ∧ nx L d f ≤ j ∧ 0 < L.getD (nx L d f) 0 ∧ ∀ i, d ≤ i → i < nx L d f → ¬ 0 < L.getD i 0
  | 0, d, j, h1, h2, _ => by omega
  | f + 1, d, j, h1, h2, h3 => by
    by_cases e : 0 < L.getD d 0
    · have : nx L d (f + 1) = d := by rw [nx, if_pos e]
      rw [this]
      exact ⟨Nat.le_refl _, h1, e, fun i hi hi2 => by omega⟩
    · have : nx L d (f + 1) = nx L (d + 1) f := by rw [nx, if_neg e]
      rw [this]
      have hne : d ≠ j := fun h => e (by rw [h]; exact h3)
      obtain ⟨a, b, c, g⟩ := nx_spec L f (d + 1) j (by omega) (by omega) h3
      refine ⟨by omega, b, c, fun i hi hi2 => ?_⟩
      by_cases e2 : i = d
      · rw [e2]; exact e
      · exact g i (by omega) hi2
/-- the sum of the numbers, each times its index -/
def wsum : Nat → List Int → Int
  | _, [] => 0
  | k, x :: r => (k : Int) * x + wsum (k + 1) r
theorem wsum_app : ∀ (a b : List Int) (k : Nat), wsum k (a ++ b) = wsum k a + wsum (k + a.length) b
  | [], b, k => by simp [wsum]
  | x :: a, b, k => by
    rw [List.cons_append, wsum, wsum, wsum_app a b (k + 1), List.length_cons, show k + 1 + a.length = k + (a.length + 1) by omega]
    omega
theorem sum_set : ∀ (L : List Int) (d : Nat), d < L.length → (L.set d (L.getD d 0 - 1)).sum = L.sum - 1
  | [], d, h => by simp at h
  | x :: r, 0, h => by simp; omega
  | x :: r, d + 1, h => by
    have := sum_set r d (by simpa using h)
    simp only [List.set_cons_succ, List.sum_cons, List.getD_cons_succ, this]
    omega
theorem wsum_set : ∀ (L : List Int) (d k : Nat), d < L.length → wsum k (L.set d (L.getD d 0 - 1)) = wsum k L - (k + d : Nat)
  | [], d, k, h => by simp at h
  | x :: r, 0, k, h => by
    simp only [List.set_cons_zero, List.getD_cons_zero, wsum, Nat.add_zero, Int.mul_sub, Int.mul_one]
    omega
  | x :: r, d + 1, k, h => by
    have := wsum_set r d (k + 1) (by simpa using h)
    simp only [List.set_cons_succ, wsum, List.getD_cons_succ, this]
    omega
theorem sum_none : ∀ (L : List Int), (∀ j, j < L.length → 0 ≤ L.getD j 0) → (∀ j, j < L.length → ¬ 0 < L.getD j 0) → L.sum = 0
  | [], _, _ => rfl
  | x :: r, h1, h2 => by
    have a := h1 0 (by simp)
    have b := h2 0 (by simp)
    simp at a b
    rw [List.sum_cons, sum_none r (fun j hj => by have := h1 (j + 1) (by simpa using hj); simpa using this) (fun j hj => by have := h2 (j + 1) (by simpa using hj); simpa using this)]
    omega
theorem wsum_none : ∀ (L : List Int) (k : Nat), (∀ j, j < L.length → 0 ≤ L.getD j 0) → (∀ j, j < L.length → 1 ≤ k + j → ¬ 0 < L.getD j 0) → wsum k L = 0
  | [], _, _, _ => rfl
  | x :: r, k, h1, h2 => by
    have a := h1 0 (by simp)
    have b := h2 0 (by simp)
    simp at a b
    rw [wsum, wsum_none r (k + 1) (fun j hj => by have := h1 (j + 1) (by simpa using hj); simpa using this) (fun j hj _ => by have := h2 (j + 1) (by simpa using hj) (by omega); simpa using this)]
    by_cases e : k = 0
    · subst e; simp
    · have : x = 0 := by have := b (by omega); omega
      rw [this]; simp
/-- counts that are left, nodes that are awaited, nodes to come -/
structure Lft (L : List Int) (a : Int) (n : Nat) : Prop where
  pos : ∀ j, j < L.length → 0 ≤ L.getD j 0
  sum : L.sum = (n : Int)
  wsm : wsum 0 L = (n : Int) - a
  aw : 0 < n → 1 ≤ a
theorem wsum_pos : ∀ (L : List Int) (k : Nat), (∀ j, j < L.length → 0 ≤ L.getD j 0) → 0 ≤ wsum k L
  | [], _, _ => Int.le_refl _
  | x :: r, k, h => by
    have a := h 0 (by simp)
    simp at a
    have b := wsum_pos r (k + 1) (fun j hj => by have := h (j + 1) (by simpa using hj); simpa using this)
    have c := Int.mul_nonneg (show (0 : Int) ≤ (k : Int) by omega) a
    rw [wsum]
    omega
theorem Lft.le {L : List Int} {a : Int} {n : Nat} (h : Lft L a n) : a ≤ n := by
  have := wsum_pos L 0 h.pos
  rw [h.wsm] at this
  omega
theorem le_sum : ∀ (L : List Int), (∀ j, j < L.length → 0 ≤ L.getD j 0) → 0 ≤ L.sum ∧ ∀ j, L.getD j 0 ≤ L.sum
  | [], _ => ⟨Int.le_refl _, fun j => by simp⟩
  | x :: r, h => by
    have a := h 0 (by simp)
    simp at a
    obtain ⟨b, c⟩ := le_sum r (fun j hj => by have := h (j + 1) (by simpa using hj); simpa using this)
    rw [List.sum_cons]
    refine ⟨by omega, fun j => ?_⟩
    cases j with
    | zero => simp; omega
    | succ j => have := c j; simp only [List.getD_cons_succ]; omega
theorem Lft.elt {L : List Int} {a : Int} {n : Nat} (h : Lft L a n) (j : Nat) : L.getD j 0 ≤ n := by
  have := (le_sum L h.pos).2 j
  rw [h.sum] at this
  exact this
/-- the least degree that may come -/
def d0 (a : Int) (n : Nat) : Nat := if a = 1 ∧ 1 < n then 1 else 0
def pk (L : List Int) (a : Int) (n : Nat) : Nat := nx L (d0 a n) L.length
theorem Lft.some {L : List Int} {a : Int} {n : Nat} (h : Lft L a n) (hn : 0 < n) : ∃ j, d0 a n ≤ j ∧ j < L.length ∧ 0 < L.getD j 0 := by
  rcases Classical.em (∃ j, d0 a n ≤ j ∧ j < L.length ∧ 0 < L.getD j 0) with e | e
  · exact e
  · have hno : ∀ j, d0 a n ≤ j → j < L.length → ¬ 0 < L.getD j 0 := fun j h1 h2 h3 => e ⟨j, h1, h2, h3⟩
    unfold d0 at hno
    by_cases c : a = 1 ∧ 1 < n
    · rw [if_pos c] at hno
      have := wsum_none L 0 h.pos (fun j hj h1 => hno j (by omega) hj)
      rw [h.wsm] at this
      omega
    · rw [if_neg c] at hno
      have := sum_none L h.pos (fun j hj => hno j (by omega) hj)
      rw [h.sum] at this
      omega
theorem Lft.pick {L : List Int} {a : Int} {n : Nat} (h : Lft L a n) (hn : 0 < n) :
    d0 a n ≤ pk L a n ∧ pk L a n < L.length ∧ 0 < L.getD (pk L a n) 0 ∧ ∀ i, d0 a n ≤ i → i < pk L a n → L.getD i 0 = 0 := by
  obtain ⟨j, h1, h2, h3⟩ := h.some hn
  obtain ⟨a1, a2, a3, a4⟩ := nx_spec L L.length (d0 a n) j h1 (by omega) h3
  refine ⟨a1, by unfold pk; omega, a3, fun i hi hi2 => ?_⟩
  have := a4 i hi hi2
  have := h.pos i (by unfold pk at hi2; omega)
  omega
theorem Lft.next {L : List Int} {a : Int} {n : Nat} (h : Lft L a (n + 1)) : Lft (L.set (pk L a (n + 1)) (L.getD (pk L a (n + 1)) 0 - 1)) (a + ((pk L a (n + 1) : Int) - 1)) n := by
  obtain ⟨h1, h2, h3, h4⟩ := h.pick (by omega)
  generalize pk L a (n + 1) = d at *
  refine ⟨fun j hj => ?_, ?_, ?_, fun hn => ?_⟩
  · rw [List.length_set] at hj
    rw [List.getD_eq_getElem?_getD, List.getElem?_set]
    by_cases e : d = j
    · rw [if_pos e, if_pos (by omega)]; show 0 ≤ L.getD d 0 - 1; omega
    · rw [if_neg e, ← List.getD_eq_getElem?_getD]; exact h.pos j hj
  · rw [sum_set L d h2, h.sum]; omega
  · rw [wsum_set L d 0 h2, h.wsm]; omega
  · have := h.aw (by omega)
    unfold d0 at h1
    by_cases c : a = 1 ∧ 1 < n + 1
    · rw [if_pos c] at h1; omega
    · omega
/-- the forest's list -/
def ffF : Nat → List Int → Int → List Int
  | 0, _, _ => []
  | n + 1, L, a => (pk L a (n + 1) : Int) :: ffF n (L.set (pk L a (n + 1)) (L.getD (pk L a (n + 1)) 0 - 1)) (a + ((pk L a (n + 1) : Int) - 1))
theorem ffF_succ (n : Nat) (L : List Int) (a : Int) : ffF (n + 1) L a = (pk L a (n + 1) : Int) :: ffF n (L.set (pk L a (n + 1)) (L.getD (pk L a (n + 1)) 0 - 1)) (a + ((pk L a (n + 1) : Int) - 1)) := rfl
theorem ffF_length : ∀ (n : Nat) (L : List Int) (a : Int), (ffF n L a).length = n
  | 0, _, _ => rfl
  | n + 1, L, a => by rw [ffF, List.length_cons, ffF_length n]
end Go.Proofs.Ytmfcknlpbliehab

/- slices.Clone of ints; the program's FirstForest. -/
namespace Go.Proofs.Ytmfcknlpbliehab
open Go.RowKit
set_option linter.unusedVariables false
def sliceLenI : Value → Nat | .slice _ n _ => n | _ => 0
theorem IRow.slenI {w : World} {B : Nat} {v : Value} {xs : List Int} (h : IRow w B v xs) : sliceLenI v = xs.length := by
  obtain ⟨A, c, rfl⟩ := h.shape
  rfl
set_option maxHeartbeats 800000 in
theorem cloneI_any (v : Value) (xs : List Int) (w : World) (h : RInts w v xs) (hl : xs.length ≤ 1048576) :
    Calls Try.prog 54 #[v] w (IntsNew w xs) := by
  obtain ⟨A0, cap, rfl⟩ := h.shape
  have q22 : ∀ (w : World) (a : Option Addr) (n c n' c' : Nat), (binOp .eql 24 (.slice a n c) (.slice none n' c')).run Try.prog w = .ok (.bool a.isNone) w := fun w a n c n' c' => Lib.run_eql_slice_nil w _ _ a n c n' c' Try.underlying24
  cases A0 with
  | none =>
    have h0 : xs.length = 0 := by
      rcases Nat.eq_zero_or_pos xs.length with h1 | h1
      · exact h1
      · obtain ⟨g, o, cc, hv, _⟩ := h.cells h1
        cases hv
    obtain rfl := List.eq_nil_of_length_eq_zero h0
    clear h
    go_enter Try.func54, Try.ntmps54
    go_wp2
    go_ret
    exact ⟨_, rfl, IRow.nil _ _, Below.refl _ _⟩
  | some ad =>
    have hb0 := (Below.refl w.heap.size w).alloc (Nat.le_refl _) (.cells #[] 3)
    have H := Lib.hid (h.below hb0)
    have HE := Lib.hid (IRow.empty w)
    clear h
    go_enter Try.func54, Try.ntmps54
    go_wp2_with (at_builtin; refine wpList_extendR (.tmp 5) (.tmp 6) rfl rfl w.heap.size _ _ [] xs rfl HE.out rfl H.out (by simp; omega) (by simp) ?_; intro v' w' hrow' hg')
    go_ret
    exact ⟨_, rfl, hrow', hb0.grown hg' (by simp) (fun q hq => (HE.out.blk q hq).1)⟩
theorem cts_sums (xs : List Int) (h : ∀ k, k < xs.length → 0 ≤ xs.getD k 0 ∧ xs.getD k 0 ≤ 16) : ∀ k, k ≤ xs.length → ((cts xs k).length : Int) = (xs.take k).sum ∧ (cts xs k).sum = wsum 0 (xs.take k)
  | 0, _ => by simp [cts, wsum]
  | k + 1, hk => by
    obtain ⟨h1, h2⟩ := cts_sums xs h k (by omega)
    have h3 := h k (by omega)
    have h4 : xs.take (k + 1) = xs.take k ++ [xs.getD k 0] := by
      rw [List.take_succ_eq_append_getElem (show k < xs.length by omega), List.getD_eq_getElem?_getD, List.getElem?_eq_getElem (show k < xs.length by omega)]
      rfl
    rw [cts_len, h4, List.sum_append, wsum_app, cts, List.sum_append, sum_rep, h2, Int.natCast_add, h1, List.length_take, Nat.min_eq_left (by omega)]
    obtain ⟨n, hn⟩ := Int.eq_ofNat_of_zero_le h3.1
    rw [hn]
    simp [wsum, Int.mul_comm]
theorem ct_left {xs : List Int} (hok : ctOk xs = true) (h1 : ¬ exc (cntL xs) < 1) : Lft xs (exc (cntL xs)) (cntL xs).length := by
  obtain ⟨hB, h16, hp⟩ := ctOk_of hok
  obtain ⟨h17, hbd⟩ := ctB_at hB
  obtain ⟨a, b⟩ := cts_sums xs hbd xs.length (Nat.le_refl _)
  rw [List.take_length] at a b
  refine ⟨fun j hj => (hbd j hj).1, a.symm, ?_, fun _ => by omega⟩
  have : exc (cntL xs) = ((cntL xs).length : Int) - (cntL xs).sum := exc_eq _
  rw [this, ← b]
  show (cts xs xs.length).sum = _
  unfold cntL
  omega
def ffOk (xs : List Int) : Bool := ctOk xs && decide (1 ≤ exc (cntL xs))
def ffV (xs : List Int) : List Int := if ffOk xs then ffF (cntL xs).length xs (exc (cntL xs)) else []
theorem ffV_len (xs : List Int) : (ffV xs).length ≤ 1048577 := by
  unfold ffV
  split
  · rename_i h
    unfold ffOk at h
    rw [Bool.and_eq_true] at h
    have := (ctOk_of h.1).2.1
    rw [ffF_length]
    omega
  · simp
theorem ffOk_no {xs : List Int} (h : ctOk xs = false ∨ exc (cntL xs) < 1) : ffOk xs = false := by
  unfold ffOk
  rw [Bool.and_eq_false_iff, decide_eq_false_iff_not]
  rcases h with h | h
  · exact .inl h
  · exact .inr (by omega)
end Go.Proofs.Ytmfcknlpbliehab
