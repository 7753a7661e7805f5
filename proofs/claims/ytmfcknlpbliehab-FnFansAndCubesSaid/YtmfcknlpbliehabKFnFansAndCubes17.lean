/- Pack 17 of what FnFansAndCubes needs: DetMath, DetS, DtmS. -/
import Derived.Test.YtmfcknlpbliehabKFnFansAndCubes16
import Derived.IntWalk
/- Determinants by their first rows; Hankel determinants. -/
namespace Go.Proofs.Ytmfcknlpbliehab
open Go.RowKit
set_option linter.unusedVariables false
/-- the rows but the first, each without its place j -/
def minr (xss : List (List Int)) (j : Nat) : List (List Int) := (xss.drop 1).map fun r => r.take j ++ r.drop (j + 1)
def sgn : Nat → Int
  | 0 => 1
  | j + 1 => -sgn j
def dtS (f : Nat → Int) : Nat → Int
  | 0 => 0
  | j + 1 => dtS f j + f j
def detF : Nat → List (List Int) → Int
  | 0, _ => 1
  | n + 1, xss => dtS (fun j => sgn j * (xss.getD 0 []).getD j 0 * detF n (minr xss j)) (n + 1)
/-- a square of numbers of a size of at most 10000 -/
def Sq (n : Nat) (xss : List (List Int)) : Prop := xss.length = n ∧ ∀ i, i < n → (xss.getD i []).length = n ∧ ∀ j, j < n → -10000 ≤ (xss.getD i []).getD j 0 ∧ (xss.getD i []).getD j 0 ≤ 10000
theorem minr_length (xss : List (List Int)) (j : Nat) : (minr xss j).length = xss.length - 1 := by simp [minr]
theorem minr_get (xss : List (List Int)) (j i : Nat) (h : i + 1 < xss.length) : (minr xss j).getD i [] = (xss.getD (i + 1) []).take j ++ (xss.getD (i + 1) []).drop (j + 1) := by
  unfold minr
  rw [List.getD_eq_getElem?_getD, List.getElem?_map, List.getElem?_drop, Nat.add_comm 1 i, List.getElem?_eq_getElem h, List.getD_eq_getElem?_getD, List.getElem?_eq_getElem h]
  rfl
theorem cut_length {r : List Int} {n j : Nat} (hr : r.length = n + 1) (hj : j < n + 1) : (r.take j ++ r.drop (j + 1)).length = n := by
  rw [List.length_append, List.length_take, List.length_drop]
  omega
theorem cut_get {r : List Int} {n j k : Nat} (hr : r.length = n + 1) (hj : j < n + 1) (hk : k < n) : (r.take j ++ r.drop (j + 1)).getD k 0 = if k < j then r.getD k 0 else r.getD (k + 1) 0 := by
  rw [List.getD_eq_getElem?_getD, List.getElem?_append, List.length_take]
  by_cases h : k < j
  · rw [if_pos (by omega), if_pos h, List.getElem?_take, if_pos h, ← List.getD_eq_getElem?_getD]
  · rw [if_neg (by omega), if_neg h, List.getElem?_drop, ← List.getD_eq_getElem?_getD]
    congr 1
    omega
theorem minr_sq {n : Nat} {xss : List (List Int)} (h : Sq (n + 1) xss) {j : Nat} (hj : j < n + 1) : Sq n (minr xss j) := by
  obtain ⟨hl, hr⟩ := h
  refine ⟨by rw [minr_length, hl]; rfl, fun i hi => ?_⟩
  obtain ⟨h1, h2⟩ := hr (i + 1) (by omega)
  rw [minr_get _ _ _ (by omega)]
  refine ⟨cut_length h1 hj, fun k hk => ?_⟩
  rw [cut_get h1 hj hk]
  split
  · exact h2 k (by omega)
  · exact h2 (k + 1) (by omega)
def dB : Nat → Nat
  | 0 => 1
  | n + 1 => (n + 1) * (10000 * dB n)
theorem dB_small {n : Nat} (h : n ≤ 4) : dB n ≤ 240000000000000000 := by
  match n, h with
  | 0, _ => decide
  | 1, _ => decide
  | 2, _ => decide
  | 3, _ => decide
  | 4, _ => decide
theorem dB3 {n : Nat} (h : n ≤ 3) : dB n ≤ 6000000000000 := by
  match n, h with
  | 0, _ => decide
  | 1, _ => decide
  | 2, _ => decide
  | 3, _ => decide
theorem sgn_bd : ∀ j, sgn j = 1 ∨ sgn j = -1
  | 0 => .inl rfl
  | j + 1 => by
    show -sgn j = 1 ∨ -sgn j = -1
    rcases sgn_bd j with h | h <;> omega
theorem dtS_bd {f : Nat → Int} {B : Nat} : ∀ n, (∀ j, j < n → -(B : Int) ≤ f j ∧ f j ≤ B) → -((n * B : Nat) : Int) ≤ dtS f n ∧ dtS f n ≤ ((n * B : Nat) : Int)
  | 0, _ => by simp [dtS]
  | n + 1, h => by
    have h1 := dtS_bd n fun j hj => h j (by omega)
    have h2 := h n (by omega)
    rw [Nat.succ_mul]
    show _ ≤ dtS f n + f n ∧ dtS f n + f n ≤ _
    omega
theorem sx_bd {j : Nat} {x : Int} (hx : -10000 ≤ x ∧ x ≤ 10000) : -10000 ≤ sgn j * x ∧ sgn j * x ≤ 10000 := by
  rcases sgn_bd j with h | h <;> rw [h] <;> omega
theorem detF_bd : ∀ n xss, Sq n xss → -(dB n : Int) ≤ detF n xss ∧ detF n xss ≤ dB n
  | 0, _, _ => by simp [detF, dB]
  | n + 1, xss, h => by
    show _ ≤ dtS _ (n + 1) ∧ dtS _ (n + 1) ≤ _
    refine dtS_bd (B := 10000 * dB n) (n + 1) fun j hj => ?_
    exact abs_mul (A := 10000) (sx_bd (j := j) ((h.2 0 (by omega)).2 j hj)) (detF_bd n _ (minr_sq h hj))
/-- what is added for the place j -/
def dtT (n : Nat) (xss : List (List Int)) (j : Nat) : Int := sgn j * (xss.getD 0 []).getD j 0 * detF n (minr xss j)
theorem detF_succ (n : Nat) (xss : List (List Int)) : detF (n + 1) xss = dtS (dtT n xss) (n + 1) := rfl
theorem dtT_bd {n : Nat} (hn : n ≤ 3) {xss : List (List Int)} (h : Sq (n + 1) xss) {j : Nat} (hj : j < n + 1) : -60000000000000000 ≤ dtT n xss j ∧ dtT n xss j ≤ 60000000000000000 := by
  have h1 := abs_mul (A := 10000) (sx_bd (j := j) ((h.2 0 (by omega)).2 j hj)) (detF_bd n _ (minr_sq h hj))
  have h2 := dB3 hn
  unfold dtT
  omega
theorem dtS_small {n : Nat} (hn : n ≤ 3) {xss : List (List Int)} (h : Sq (n + 1) xss) {j : Nat} (hj : j ≤ n + 1) : -240000000000000000 ≤ dtS (dtT n xss) j ∧ dtS (dtT n xss) j ≤ 240000000000000000 := by
  have h1 := dtS_bd (f := dtT n xss) (B := 60000000000000000) j fun i hi => by
    have := dtT_bd hn h (j := i) (by omega)
    omega
  have h2 : j * 60000000000000000 ≤ 4 * 60000000000000000 := Nat.mul_le_mul_right _ (by omega)
  omega
/-- the rows of a Hankel determinant -/
def hkR (ms : List Int) (n i : Nat) : List (List Int) := (List.range i).map fun k => (ms.drop k).take n
theorem hkR_succ (ms : List Int) (n i : Nat) : hkR ms n (i + 1) = hkR ms n i ++ [(ms.drop i).take n] := by
  unfold hkR
  rw [List.range_succ, List.map_append]
  rfl
theorem hkR_length (ms : List Int) (n i : Nat) : (hkR ms n i).length = i := by simp [hkR]
theorem hkR_get (ms : List Int) (n i k : Nat) (h : k < i) : (hkR ms n i).getD k [] = (ms.drop k).take n := by
  unfold hkR
  rw [List.getD_eq_getElem?_getD, List.getElem?_map, List.getElem?_range h]
  rfl
theorem hkR_sq {ms : List Int} {n : Nat} (hl : 2 * n ≤ ms.length + 1) (hb : ∀ k, k < ms.length → -10000 ≤ ms.getD k 0 ∧ ms.getD k 0 ≤ 10000) : Sq n (hkR ms n n) := by
  refine ⟨hkR_length _ _ _, fun i hi => ?_⟩
  rw [hkR_get _ _ _ _ hi]
  refine ⟨by rw [List.length_take, List.length_drop]; omega, fun j hj => ?_⟩
  rw [List.getD_eq_getElem?_getD, List.getElem?_take, if_pos hj, List.getElem?_drop, ← List.getD_eq_getElem?_getD]
  exact hb (i + j) (by omega)
def hkD (ms : List Int) (n : Nat) : Int := detF n (hkR ms n n)
theorem hkD_bd {ms : List Int} {n : Nat} (hn : n ≤ 4) (hl : 2 * n ≤ ms.length + 1) (hb : ∀ k, k < ms.length → -10000 ≤ ms.getD k 0 ∧ ms.getD k 0 ≤ 10000) : -240000000000000000 ≤ hkD ms n ∧ hkD ms n ≤ 240000000000000000 := by
  have h1 := detF_bd n _ (hkR_sq hl hb)
  have h2 := dB_small hn
  unfold hkD
  omega
def hkOk (ms : List Int) (n : Int) : Bool := ((momB ms && allB ms (-10000) 10000) && inBd 0 4 n) && !decide (((ms.length : Nat) : Int) < 2 * n - 1)
def hkV (ms : List Int) (n : Int) : Int := if hkOk ms n = true then hkD ms n.toNat else 0
/-- the quotients of the determinants -/
def dq (ms : List Int) : Nat → Int
  | 0 => 1
  | n + 1 => (hkD ms (n + 1)).tdiv (hkD ms n)
/-- what is asked of the quotient behind n -/
def dc (ms : List Int) (n : Nat) : Bool := (((hkD ms (n + 1)).tmod (hkD ms n) == 0) && decide (1 ≤ dq ms (n + 1))) && ((!(n == 0) || hkD ms 1 == 1) && ((dq ms (n + 1)).tmod (dq ms n) == 0))
def dcA (ms : List Int) (n : Nat) : Bool := (List.range n).all (dc ms)
def dwL (ms : List Int) : Nat → List Int
  | 0 => []
  | n + 1 => if 1 ≤ n then dwL ms n ++ [(dq ms (n + 1)).tdiv (dq ms n)] else dwL ms n
theorem dwL_length (ms : List Int) : ∀ n, (dwL ms n).length ≤ n
  | 0 => Nat.le_refl _
  | n + 1 => by
    have := dwL_length ms n
    show (if 1 ≤ n then dwL ms n ++ [(dq ms (n + 1)).tdiv (dq ms n)] else dwL ms n).length ≤ n + 1
    split
    · rw [List.length_append]; simp; exact this
    · omega
theorem dcA_succ (ms : List Int) (n : Nat) : dcA ms (n + 1) = (dcA ms n && dc ms n) := by
  unfold dcA
  rw [List.range_succ, List.all_append]
  simp
theorem dcA_no {ms : List Int} {n m : Nat} (h : dc ms n = false) (hm : n < m) : dcA ms m = false := by
  unfold dcA
  rw [List.all_eq_false]
  exact ⟨n, List.mem_range.2 hm, by rw [h]; simp⟩
theorem dc_pos {ms : List Int} : ∀ n, dcA ms n = true → 1 ≤ hkD ms n ∧ 1 ≤ dq ms n
  | 0, _ => by
    have : hkD ms 0 = 1 := rfl
    rw [this]
    exact ⟨Int.le_refl _, Int.le_refl _⟩
  | n + 1, h => by
    rw [dcA_succ, Bool.and_eq_true] at h
    have h1 := (dc_pos n h.1).1
    have h2 := h.2
    unfold dc at h2
    simp only [Bool.and_eq_true, decide_eq_true_eq] at h2
    have h3 := h2.1.2
    refine ⟨?_, h3⟩
    have h4 : (hkD ms (n + 1)).tdiv (hkD ms n) = dq ms (n + 1) := rfl
    rw [← h4] at h3
    refine Classical.byContradiction fun hn => ?_
    have h5 : (hkD ms (n + 1)).tdiv (hkD ms n) ≤ 0 := by
      rw [show hkD ms (n + 1) = -(-hkD ms (n + 1)) by omega, Int.neg_tdiv, Int.tdiv_eq_ediv_of_nonneg (by omega)]
      have := Int.ediv_nonneg (show 0 ≤ -hkD ms (n + 1) by omega) (show 0 ≤ hkD ms n by omega)
      omega
    omega
def dwN (ms : List Int) : Nat := (ms.length + 1) / 2
def dwOk (ms : List Int) : Bool := ((momB ms && allB ms (-10000) 10000) && !(ms.length % 2 == 0)) && dcA ms (dwN ms)
def dwV (ms : List Int) : List Int := if dwOk ms = true then dwL ms (dwN ms) else []
end Go.Proofs.Ytmfcknlpbliehab

/- The model's kiDet. -/
namespace Go.Proofs.Ytmfcknlpbliehab
open Go.RowKit
set_option maxRecDepth 100000 in
set_option linter.unusedVariables false
/-- append of what a slice holds that is only read, at a step of a region that draws its order -/
theorem step_extendR {ops : Array Oper} {o : Oper} {a : Act} {K : Act → World → Prop} {Q : Exit → Act → World → Prop} {E : Prop} {w : World} (s x : Operand) (hgd : o.guard = none)
    (ho : o.op = .call { callee := .builtin .append, args := #[s, x], argTypes := #[24, 24] })
    (B : Nat) (v u : Value) (xs ys : List Int) (hs : a.eval s = v) (hown : IRow w B v xs) (hx : a.eval x = u) (hr : RInts w u ys)
    (hlen : xs.length + ys.length ≤ 1099511627776) (hB : B ≤ w.heap.size)
    (h : ∀ v' w', IRow w' B v' (xs ++ ys) → w.grownBy w' v.ownBlock → K (a.put o.dst v') w') :
    if Region.wanted o (yielded ops a.tmps) = true then Oper.wp Try.prog o a w K Q else E := by
  have hw : Region.wanted o (yielded ops a.tmps) = true := by simp [Region.wanted, hgd]
  rw [if_pos hw]
  obtain ⟨v', w', hr, h2, h3⟩ := run_extendR w o.type B v u xs ys hown hr hlen hB
  unfold Oper.wp execOp
  simp only [ho, resolve, invoke, builtin, Sem.run_bind, Sem.run_pure, Result.andThen_ok, List.map_toArray, List.map_cons, List.map_nil, hs, hx, hr]
  exact h v' w' h2 h3
/-- rows that are only read, with their room -/
structure MRows (w : World) (v : Value) (xss : List (List Int)) : Prop where
  rows : LRows w v xss
  room : ∀ A n c, v = .slice A n c → n ≤ c ∧ c ≤ maxLen
theorem TRow.mrows {w : World} {B M : Nat} {v : Value} {vs : List Value} {xss : List (List Int)} (h : TRow w B M v vs xss) : MRows w v xss :=
  ⟨h.rows, fun A n c e => by
    rcases h.out.2 with ⟨h1, _⟩ | ⟨g, cap, cur, h1, _, _, h2, h3, _⟩
    · rw [h1] at e
      injection e with e1 e2 e3
      subst e2 e3
      exact ⟨Nat.le_refl _, by simp [maxLen]⟩
    · rw [h1] at e
      injection e with e1 e2 e3
      subst e2 e3
      exact ⟨h2, h3⟩⟩
theorem rints_empty (w : World) (a : Option Addr) (c : Nat) (hm : c ≤ maxLen) : RInts w (.slice a 0 c) [] :=
  ⟨⟨_, _, rfl⟩, fun A n c2 e => by injection e with e1 e2 e3; subst e2 e3; exact ⟨Nat.zero_le _, hm⟩, fun h => absurd h (by simp)⟩
theorem hat_alloc' {v v' : Value} {w : World} {o : Obj} (h : v'.ownBlock = v.ownBlock ∨ ∃ g, v'.ownBlock = some g ∧ (w.alloc o).heap.size ≤ g) : v'.ownBlock = v.ownBlock ∨ ∃ g, v'.ownBlock = some g ∧ w.heap.size ≤ g := by
  rcases h with h | ⟨g, h1, h2⟩
  · exact .inl h
  · exact .inr ⟨g, h1, by simp at h2; omega⟩
end Go.Proofs.Ytmfcknlpbliehab

/- The model's ncSmall, DeterminantOf. -/
namespace Go.Proofs.Ytmfcknlpbliehab
open Go.RowKit
set_option linter.unusedVariables false
theorem allB_of8 {xs : List Int} {lo hi : Int} (h : allB xs lo hi = true) : ∀ k, k < xs.length → lo ≤ xs.getD k 0 ∧ xs.getD k 0 ≤ hi := fun k hk => by
  unfold allB inBd at h
  simp only [Bool.and_eq_true, decide_eq_true_eq, List.all_eq_true] at h
  rw [List.getD_eq_getElem?_getD, List.getElem?_eq_getElem hk]
  exact h _ (List.getElem_mem hk)
theorem inBd_if8 {a lo hi : Int} (h : inBd lo hi a = true) : lo ≤ a ∧ a ≤ hi := by unfold inBd at h; simpa only [Bool.and_eq_true, decide_eq_true_eq] using h
def smRow (n : Nat) (r : List Int) : Bool := r.length == n && allB r (-10000) 10000
def smT (xss : List (List Int)) : Bool := inBd 1 4 (xss.length : Nat) && xss.all (smRow xss.length)
theorem smT_no {xss : List (List Int)} {j : Nat} (hj : j < xss.length) (h : smRow xss.length (xss.getD j []) = false) : smT xss = false := by
  unfold smT
  rw [Bool.and_eq_false_iff]
  refine .inr ?_
  rw [← Bool.not_eq_true, List.all_eq_true]
  intro h2
  have h3 := h2 xss[j] (List.getElem_mem hj)
  rw [List.getD_eq_getElem?_getD, List.getElem?_eq_getElem hj] at h
  rw [Option.getD_some] at h
  rw [h] at h3
  exact absurd h3 (by decide)
theorem smT_yes {xss : List (List Int)} (h0 : inBd 1 4 (xss.length : Nat) = true) (h : ∀ k, k < xss.length → smRow xss.length (xss.getD k []) = true) : smT xss = true := by
  unfold smT
  rw [h0, Bool.true_and, List.all_eq_true]
  intro r hr
  obtain ⟨k, hk, rfl⟩ := List.getElem_of_mem hr
  have := h k hk
  rwa [List.getD_eq_getElem?_getD, List.getElem?_eq_getElem hk, Option.getD_some] at this
theorem smT_sq {xss : List (List Int)} (h : smT xss = true) : xss.length ≤ 4 ∧ Sq xss.length xss := by
  unfold smT at h
  rw [Bool.and_eq_true] at h
  obtain ⟨h1, h2⟩ := h
  have h3 := inBd_if8 h1
  refine ⟨by omega, rfl, fun i hi => ?_⟩
  rw [List.all_eq_true] at h2
  have h4 := h2 xss[i] (List.getElem_mem hi)
  unfold smRow at h4
  rw [Bool.and_eq_true, beq_iff_eq] at h4
  rw [List.getD_eq_getElem?_getD, List.getElem?_eq_getElem hi, Option.getD_some]
  exact ⟨h4.1, fun j hj => allB_of8 h4.2 j (by omega)⟩
def dtmOk (xss : List (List Int)) : Bool := smT xss
def dtmV (xss : List (List Int)) : Int := if smT xss = true then detF xss.length xss else 0
theorem MRows.below {w w' : World} {v : Value} {xss : List (List Int)} (h : MRows w v xss) (hb : Below w.heap.size w w') : MRows w' v xss := ⟨h.rows.below hb, h.room⟩
end Go.Proofs.Ytmfcknlpbliehab
