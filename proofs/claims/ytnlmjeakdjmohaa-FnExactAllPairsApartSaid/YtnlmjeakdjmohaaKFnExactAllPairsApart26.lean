/- Pack 26 of what FnExactAllPairsApart needs: ArMath, PExt. -/
import Derived.Test.YtnlmjeakdjmohaaKFnExactAllPairsApart25
import Derived.Laws.OwnMore
/- Ways one after the other: what is taken, and what is shared with it. -/
namespace Go.Proofs.Ytnlmjeakdjmohaa
open Go.RowKit
set_option linter.unusedVariables false
theorem mtI_isSome (xs ys : List Int) (m : Nat) : ∀ f i, (mtI xs ys m f i).isSome = true ↔ ∃ k, i ≤ k ∧ k < i + f ∧ hasF m ys (xs.getD (k * 2) 0) (xs.getD (k * 2 + 1) 0) = true
  | 0, i => by simp [mtI]; omega
  | f + 1, i => by
    have e := pxF_has ys (xs.getD (i * 2) 0) (xs.getD (i * 2 + 1) 0) m
    rw [pxF_mtJ] at e
    cases h : mtJ xs ys i m 0 with
    | some j =>
      rw [h] at e
      rw [mtI_yes h]
      exact ⟨fun _ => ⟨i, Nat.le_refl _, by omega, e.symm⟩, fun _ => rfl⟩
    | none =>
      rw [h] at e
      rw [mtI_no h, mtI_isSome xs ys m f (i + 1)]
      constructor
      · rintro ⟨k, h1, h2, h3⟩
        exact ⟨k, by omega, by omega, h3⟩
      · rintro ⟨k, h1, h2, h3⟩
        by_cases hk : k = i
        · subst hk
          rw [h3] at e
          cases e
        · exact ⟨k, by omega, by omega, h3⟩
/-- the cells of the way p -/
def wN (L : List Wy) (p : Nat) : Nat := ncN (wg L p).1 (wg L p).2.1 (wg L p).2.2
def wX (L : List Wy) (p : Nat) : List Int := ncX (wg L p).1 (wg L p).2.1 (wg L p).2.2
theorem ncX_len (x y : Int) (s : ByteArray) : (ncX x y s).length = ncN x y s * 2 := by
  unfold ncX ncN
  split
  · exact clF_len _ _ _ _
  · rfl
theorem ncN_25 (x y : Int) (s : ByteArray) : ncN x y s ≤ 25 := by
  unfold ncN
  split
  · next h => have := (wayB_of h).2.1; omega
  · omega
/-- what is taken behind k ways -/
def TkOk (L : List Wy) (k m : Nat) (ts : List Int) : Prop := ∀ a b, hasF m ts a b = true ↔ ∃ p, p < k ∧ hasF (wN L p) (wX L p) a b = true
theorem TkOk.zero (L : List Wy) : TkOk L 0 0 [] := fun a b => by
  rw [hasF_zero]
  constructor
  · intro h; cases h
  · rintro ⟨p, hp, _⟩; omega
theorem TkOk.succ {L : List Wy} {k m : Nat} {ts : List Int} (h : TkOk L k m ts) (hl : ts.length = m * 2) : TkOk L (k + 1) (m + wN L k) (ts ++ wX L k) := fun a b => by
  rw [hasF_app hl, Bool.or_eq_true, h a b]
  constructor
  · rintro (⟨p, hp, h1⟩ | h1)
    · exact ⟨p, by omega, h1⟩
    · exact ⟨k, by omega, h1⟩
  · rintro ⟨p, hp, h1⟩
    rcases Nat.lt_or_ge p k with h2 | h2
    · exact .inl ⟨p, h2, h1⟩
    · obtain rfl : p = k := by omega
      exact .inr h1
theorem mtR_share (L : List Wy) (j i : Nat) : (mtR (wg L j).1 (wg L j).2.1 (wg L j).2.2 (wg L i).1 (wg L i).2.1 (wg L i).2.2).isSome = true ↔ ∃ k, k < wN L j ∧ hasF (wN L i) (wX L i) ((wX L j).getD (k * 2) 0) ((wX L j).getD (k * 2 + 1) 0) = true := by
  unfold mtR
  rw [mtI_isSome]
  constructor
  · rintro ⟨k, _, h2, h3⟩
    exact ⟨k, by unfold wN; omega, h3⟩
  · rintro ⟨k, h2, h3⟩
    exact ⟨k, by omega, by unfold wN at h2; omega, h3⟩
/-- the way k shares with those before -/
theorem apB_succ {L : List Wy} {k m : Nat} {ts : List Int} (h : TkOk L k m ts) : apB (k + 1) L = (apB k L && !(mtI (wX L k) ts m (wN L k) 0).isSome) := by
  rw [Bool.eq_iff_iff, Bool.and_eq_true]
  have e : (!(mtI (wX L k) ts m (wN L k) 0).isSome) = true ↔ ∀ i, i < k → apC L k i = true := by
    rw [Bool.not_eq_true', ← Bool.not_eq_true]
    constructor
    · intro hn i hi
      unfold apC
      rw [Bool.not_eq_true', ← Bool.not_eq_true]
      intro hs
      obtain ⟨q, hq, hs2⟩ := (mtR_share L k i).1 hs
      exact hn ((mtI_isSome _ _ _ _ _).2 ⟨q, by omega, by omega, (h _ _).2 ⟨i, hi, hs2⟩⟩)
    · intro ha hs
      obtain ⟨q, _, hq, hs2⟩ := (mtI_isSome _ _ _ _ _).1 hs
      obtain ⟨i, hi, hs3⟩ := (h _ _).1 hs2
      have h1 := ha i hi
      unfold apC at h1
      rw [(mtR_share L k i).2 ⟨q, by omega, hs3⟩] at h1
      cases h1
  rw [e]
  constructor
  · intro h1
    unfold apB at h1
    rw [List.all_eq_true] at h1
    refine ⟨apB_yes fun j hj i hi => ?_, fun i hi => ?_⟩
    · have := h1 j (List.mem_range.2 (by omega))
      rw [List.all_eq_true] at this
      exact this i (List.mem_range.2 hi)
    · have := h1 k (List.mem_range.2 (by omega))
      rw [List.all_eq_true] at this
      exact this i (List.mem_range.2 hi)
  · rintro ⟨h1, h2⟩
    refine apB_yes fun j hj i hi => ?_
    rcases Nat.lt_or_ge j k with h3 | h3
    · unfold apB at h1
      rw [List.all_eq_true] at h1
      have := h1 j (List.mem_range.2 h3)
      rw [List.all_eq_true] at this
      exact this i (List.mem_range.2 hi)
    · obtain rfl : j = k := by omega
      exact h2 i hi
theorem apB_zero (L : List Wy) : apB 0 L = true := rfl
end Go.Proofs.Ytnlmjeakdjmohaa

/- append of what another slice of places holds. -/
namespace Go.Proofs.Ytnlmjeakdjmohaa
open Go.RowKit
set_option linter.unusedVariables false
theorem run_app_noneP {P : Program} (w : World) (base : Nat) (t ty e : TypeId) (i : TypeInfo) (size : Nat) (ht : P.underlying t = some (.slice e)) (hi : P.info? e = some i)
    (v : Value) (n c : Nat) (xs : List Value) (hown : w.ownsRow base e size v n xs) :
    (Builtin.append_ #[t, t] ty #[v, .slice none 0 c]).run P w = .ok v w := by
  rcases hown.2 with ⟨rfl, rfl⟩ | ⟨g, cap, cur, rfl, _, _, hnc, _⟩
  · simp [Builtin.append_, run_underlying ht, sizeOf, typeInfo, hi, Builtin.lenOf, Builtin.firstCells]
  · simp [Builtin.append_, run_underlying ht, sizeOf, typeInfo, hi, Builtin.lenOf, Builtin.firstCells, hnc, storeCells]
set_option maxRecDepth 100000 in
theorem run_extendP (w : World) (ty : TypeId) (B : Nat) (v u : Value) (n m : Nat) (xs ys : List Int) (hown : PRow w B v n xs) (hr : RPls w u m ys) (hy : ys.length = m * 2) (hlen : n + m ≤ 1048576) (hB : B ≤ w.heap.size) :
    ∃ v' w', (Builtin.append_ #[62, 62] ty #[v, u]).run Try.prog w = .ok v' w' ∧ PRow w' B v' (n + m) (xs ++ ys) ∧ w.grownBy w' v.ownBlock ∧ (v'.ownBlock = v.ownBlock ∨ ∃ g, v'.ownBlock = some g ∧ w.heap.size ≤ g) := by
  obtain ⟨i0, hi, hz0, hz1, hz2⟩ := info_parts plcInfo
  obtain ⟨A, c, rfl⟩ := hr.shape
  cases A with
  | none =>
    have h0 : m = 0 := by
      rcases Nat.eq_zero_or_pos m with h | h
      · exact h
      · obtain ⟨g, o, c', hv, _⟩ := hr.cells h
        cases hv
    subst h0
    rw [List.eq_nil_of_length_eq_zero (show ys.length = 0 by omega), List.append_nil]
    exact ⟨v, w, run_app_noneP w B 62 ty 103 i0 2 Try.underlying62 hi v n c (xs.map (Value.int .i64)) hown.1, hown, ⟨rfl, rfl, rfl, Nat.le_refl _, fun _ _ _ => rfl⟩, .inl rfl⟩
  | some ad =>
    obtain ⟨v', w', hr2, h2, h3, h4, h5⟩ := run_append_own_at (P := Try.prog) w B 62 ty 103 i0 (.agg #[.int .i64 0, .int .i64 0]) 2 16 Try.underlying62 hi hz0 hz1 hz2 rfl (by decide) v n (xs.map (Value.int .i64)) hown.1
      ad m c (ys.map (Value.int .i64)) (by simp [hy]) (by
        intro j y hj
        rw [List.getElem?_map] at hj
        rcases Nat.lt_or_ge j ys.length with hlt | hge
        · obtain ⟨g, o, cc, hv, _, hc⟩ := hr.cells (by omega)
          injection hv with hv
          injection hv with hv
          subst hv
          have e := hc j (by omega)
          rw [List.getD_eq_getElem?_getD] at e
          rw [List.getElem?_eq_getElem hlt] at hj e
          injection hj with hj
          subst hj
          have e2 : (⟨g, o, none⟩ : Addr).add j = ⟨g, o + j, none⟩ := by unfold Addr.add; split <;> simp_all
          rw [e2]
          exact e
        · rw [List.getElem?_eq_none hge] at hj
          cases hj) (by
        intro y hy
        rw [List.mem_map] at hy
        obtain ⟨n, _, rfl⟩ := hy
        rfl) (by unfold maxLen; omega) (by omega) hB
    refine ⟨v', w', hr2, ⟨?_, by rw [List.length_append, hown.2, hy]; omega⟩, h3, ?_⟩
    · rw [List.map_append]
      exact h2
    · rcases h5 with h5 | h5
      · exact .inl h5
      · exact .inr ⟨_, h5, Nat.le_refl _⟩
theorem wpList_extendP {ops : Array Oper} {rest : List Oper} {o : Oper} {a : Act} {Q : Exit → Act → World → Prop} {w : World} (s x : Operand) (hgd : o.guard = none)
    (ho : o.op = .call { callee := .builtin .append, args := #[s, x], argTypes := #[62, 62] })
    (B : Nat) (v u : Value) (n m : Nat) (xs ys : List Int) (hs : a.eval s = v) (hown : PRow w B v n xs) (hx : a.eval x = u) (hr : RPls w u m ys) (hy : ys.length = m * 2)
    (hlen : n + m ≤ 1048576) (hB : B ≤ w.heap.size)
    (h : ∀ v' w', PRow w' B v' (n + m) (xs ++ ys) → w.grownBy w' v.ownBlock → (v'.ownBlock = v.ownBlock ∨ ∃ g, v'.ownBlock = some g ∧ w.heap.size ≤ g) → wpList Try.prog ops Q rest (a.put o.dst v') w') :
    wpList Try.prog ops Q (o :: rest) a w := by
  refine wpList_plain hgd fun K hK => ?_
  obtain ⟨v', w', hr, h2, h3, h4⟩ := run_extendP w o.type B v u n m xs ys hown hr hy hlen hB
  unfold Oper.wp execOp
  simp only [ho, resolve, invoke, builtin, Sem.run_bind, Sem.run_pure, Result.andThen_ok, List.map_toArray, List.map_cons, List.map_nil, hs, hx, hr]
  exact hK _ _ (h v' w' h2 h3 h4)
end Go.Proofs.Ytnlmjeakdjmohaa
