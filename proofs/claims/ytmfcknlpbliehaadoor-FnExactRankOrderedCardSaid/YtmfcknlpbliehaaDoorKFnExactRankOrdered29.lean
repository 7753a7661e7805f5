/- Pack 29 of what FnExactRankOrdered needs: HkI, HkI2. -/
import Derived.Test.YtmfcknlpbliehaaDoorKFnExactRankOrdered28
import Derived.RegionTactic
import Derived.Deep.QuietTactic
/- HooksOf: the program's closure; a push at a drawn step. -/
namespace Go.Proofs.YtmfcknlpbliehaaDoor
open Go.RowKit
set_option linter.unusedVariables false
set_option maxRecDepth 100000 in
theorem run_pushI (w : World) (ty : TypeId) (B : Nat) (v : Value) (u : Int) (xs : List Int) (hown : IRow w B v xs) (gb : Nat) (hc : w.cell? ⟨gb, 0, none⟩ = some (.int .i64 u)) (hlen : xs.length ≤ 2000000) (hB : B ≤ w.heap.size) :
    ∃ v' w', (Builtin.append_ #[33, 33] ty #[v, .slice (some ⟨gb, 0, none⟩) 1 1]).run Tryd.prog w = .ok v' w' ∧ IRow w' B v' (xs ++ [u]) ∧ w.grownBy w' v.ownBlock ∧ (v'.ownBlock = v.ownBlock ∨ ∃ g, v'.ownBlock = some g ∧ w.heap.size ≤ g) := by
  obtain ⟨i0, hi, hz0, hz1, hz2⟩ := info_parts intInfo
  obtain ⟨v', w', hr, h2, h3, h4, h5⟩ := run_append_own_at (P := Tryd.prog) w B 33 ty 3 i0 (.int .i64 0) 1 8 Tryd.underlying33 hi hz0 hz1 hz2 rfl (by decide) v xs.length (xs.map (Value.int .i64)) hown
    ⟨gb, 0, none⟩ 1 1 [.int .i64 u] rfl (by
      intro j y hj
      match j, hj with
      | 0, hj => simp at hj; subst hj; simpa [Addr.add] using hc) (by intro y hy; simp at hy; subst hy; rfl) (by unfold maxLen; omega) (by omega) hB
  refine ⟨v', w', hr, ?_, h3, ?_⟩
  · unfold IRow
    simpa using h2
  · rcases h5 with h5 | h5
    · exact .inl h5
    · exact .inr ⟨_, h5, Nat.le_refl _⟩
set_option maxRecDepth 100000 in
theorem step_pushI {ops : Array Oper} {o : Oper} {a : Act} {K : Act → World → Prop} {Q : Exit → Act → World → Prop} {E : Prop} {w : World} (s x : Operand) (hgd : o.guard = none)
    (ho : o.op = .call { callee := .builtin .append, args := #[s, x], argTypes := #[33, 33] })
    (B : Nat) (v : Value) (xs : List Int) (hs : a.eval s = v) (hown : IRow w B v xs) (gb : Nat) (u : Int) (hx : a.eval x = .slice (some ⟨gb, 0, none⟩) 1 1)
    (hc : w.cell? ⟨gb, 0, none⟩ = some (.int .i64 u)) (hlen : xs.length ≤ 2000000) (hB : B ≤ w.heap.size)
    (h : ∀ v' w', IRow w' B v' (xs ++ [u]) → w.grownBy w' v.ownBlock → (v'.ownBlock = v.ownBlock ∨ ∃ g, v'.ownBlock = some g ∧ w.heap.size ≤ g) → K (a.put o.dst v') w') :
    if Region.wanted o (yielded ops a.tmps) = true then Oper.wp Tryd.prog o a w K Q else E := by
  have hw : Region.wanted o (yielded ops a.tmps) = true := by simp [Region.wanted, hgd]
  rw [if_pos hw]
  obtain ⟨v', w', hr, h2, h3, h4⟩ := run_pushI w o.type B v u xs hown gb hc hlen hB
  unfold Oper.wp execOp
  simp only [ho, resolve, invoke, builtin, Sem.run_bind, Sem.run_pure, Result.andThen_ok, List.map_toArray, List.map_cons, List.map_nil, hs, hx, hr]
  exact h v' w' h2 h3 h4
theorem res_at {xs : List Int} (h : resB xs = true) : xs.length = 4 ∧ ∀ k, k < 4 → ∃ m : Nat, xs.getD k 0 = (m : Int) ∧ m ≤ 16 := by
  obtain ⟨a, b, c, d, rfl, h1, h2, h3, h4⟩ := (resB_iff xs).1 h
  refine ⟨rfl, fun k hk => ?_⟩
  have : k = 0 ∨ k = 1 ∨ k = 2 ∨ k = 3 := by omega
  rcases this with e | e | e | e <;> subst e
  · exact ⟨a, rfl, by omega⟩
  · exact ⟨b, rfl, by omega⟩
  · exact ⟨c, rfl, by omega⟩
  · exact ⟨d, rfl, by omega⟩
theorem drop_getD (xs : List Int) (i k : Nat) : (xs.drop i).getD k 0 = xs.getD (i + k) 0 := by
  rw [List.getD_eq_getElem?_getD, List.getD_eq_getElem?_getD, List.getElem?_drop]
theorem hk_start (xs : List Int) (i : Nat) (j : Int) : laN j ((xs.drop (i + 1)).take 0) = 0 := by simp [laN]
theorem hk_yes {xs : List Int} {i k : Nat} {j : Int} (hk : i + 1 + k < xs.length) (h : j < xs.getD (i + 1 + k) 0) : laN j ((xs.drop (i + 1)).take (k + 1)) = laN j ((xs.drop (i + 1)).take k) + 1 := by
  rw [laN_take j _ k (by rw [List.length_drop]; omega), drop_getD, if_pos h]
theorem hk_no {xs : List Int} {i k : Nat} {j : Int} (hk : i + 1 + k < xs.length) (h : ¬ j < xs.getD (i + 1 + k) 0) : laN j ((xs.drop (i + 1)).take (k + 1)) = laN j ((xs.drop (i + 1)).take k) := by
  rw [laN_take j _ k (by rw [List.length_drop]; omega), drop_getD, if_neg h]; rfl
theorem hk_end (xs : List Int) (i : Nat) (j : Int) {k : Nat} (h : xs.length ≤ i + 1 + k) : hkN xs i j = xs.getD i 0 - j + (laN j ((xs.drop (i + 1)).take k) : Nat) := by
  unfold hkN
  rw [List.take_of_length_le (by rw [List.length_drop]; omega)]
end Go.Proofs.YtmfcknlpbliehaaDoor

/- HooksOf: the program. -/
namespace Go.Proofs.YtmfcknlpbliehaaDoor
open Go.RowKit
set_option linter.unusedVariables false
/-- the rows of hooks while row i is filled up to j -/
def hkT (xs : List Int) (i j : Nat) : List (List Int) := (List.range 4).map fun r => if r < i then hkRow xs r (xs.getD r 0).toNat else if r = i then hkRow xs i j else []
theorem hkT_len (xs : List Int) (i j : Nat) : (hkT xs i j).length = 4 := by simp [hkT]
theorem hkT_zero (xs : List Int) : hkT xs 0 0 = List.replicate 4 [] := by simp [hkT, hkRow]; rfl
theorem hkT_get (xs : List Int) (i j : Nat) (h : i < 4) : (hkT xs i j).getD i [] = hkRow xs i j := by
  unfold hkT
  rw [List.getD_eq_getElem?_getD, List.getElem?_map, List.getElem?_range h]
  show (if i < i then _ else if i = i then _ else _) = _
  rw [if_neg (by omega), if_pos rfl]
theorem hkT_set (xs : List Int) (i j : Nat) (h : i < 4) : (hkT xs i j).set i (hkRow xs i j ++ [hkN xs i (j : Int)]) = hkT xs i (j + 1) := by
  apply List.ext_getElem
  · simp [hkT]
  · intro r h1 h2
    rw [List.getElem_set]
    simp only [hkT, List.getElem_map, List.getElem_range]
    by_cases e : i = r
    · subst e
      rw [if_pos rfl, if_neg (by omega), if_pos rfl]
      rfl
    · rw [if_neg e]
      by_cases c : r < i
      · rw [if_pos c, if_pos c]
      · rw [if_neg c, if_neg c, if_neg (fun x => e x.symm), if_neg (fun x => e x.symm)]
theorem hkT_next (xs : List Int) (i m : Nat) (e : xs.getD i 0 = (m : Int)) : hkT xs (i + 1) 0 = hkT xs i m := by
  apply List.ext_getElem
  · simp [hkT]
  · intro r h1 h2
    simp only [hkT, List.getElem_map, List.getElem_range]
    by_cases c : r < i
    · rw [if_pos (by omega), if_pos c]
    · rw [if_neg c]
      by_cases c2 : r = i
      · subst c2
        rw [if_pos (by omega), if_pos rfl, e]
        rfl
      · rw [if_neg (by omega), if_neg c2]
        by_cases c3 : r = i + 1
        · subst c3; rw [if_pos rfl]; rfl
        · rw [if_neg c3]
theorem hkT_full (xs : List Int) : hkT xs 4 0 = hksTo xs 4 := rfl
def hkV (xs : List Int) : List (List Int) := if resB xs = true then hksTo xs 4 else []
theorem alloc_cell0 (w : World) (T : TypeId) (x : Value) : (w.alloc (.cells #[x] T)).cell? ⟨w.heap.size, 0, none⟩ = some x := by simp [go_sem]
end Go.Proofs.YtmfcknlpbliehaaDoor
