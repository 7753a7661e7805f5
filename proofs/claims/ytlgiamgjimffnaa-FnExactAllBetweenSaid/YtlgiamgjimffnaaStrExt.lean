/- append of what another slice of strings holds. -/
import Derived.Test.YtlgiamgjimffnaaSOwn
import Derived.Laws.OwnMore
namespace Go.Proofs.Ytlgiamgjimffnaa
open Go.RowKit
set_option linter.unusedVariables false
theorem run_app_none {P : Program} (w : World) (base : Nat) (t ty e : TypeId) (i : TypeInfo) (size : Nat) (ht : P.underlying t = some (.slice e)) (hi : P.info? e = some i)
    (v : Value) (n c : Nat) (xs : List Value) (hown : w.ownsRow base e size v n xs) :
    (Builtin.append_ #[t, t] ty #[v, .slice none 0 c]).run P w = .ok v w := by
  rcases hown.2 with ⟨rfl, rfl⟩ | ⟨g, cap, cur, rfl, _, _, hnc, _⟩
  · simp [Builtin.append_, run_underlying ht, sizeOf, typeInfo, hi, Builtin.lenOf, Builtin.firstCells]
  · simp [Builtin.append_, run_underlying ht, sizeOf, typeInfo, hi, Builtin.lenOf, Builtin.firstCells, hnc, storeCells]
set_option maxRecDepth 100000 in
theorem run_extendS (w : World) (ty : TypeId) (B B2 : Nat) (v u : Value) (xs ys : List ByteArray) (hown : SRow w B v xs) (hr : SRow w B2 u ys) (hlen : xs.length + ys.length ≤ 1099511627776) (hB : B ≤ w.heap.size) :
    ∃ v' w', (Builtin.append_ #[43, 43] ty #[v, u]).run Try.prog w = .ok v' w' ∧ SRow w' B v' (xs ++ ys) ∧ w.grownBy w' v.ownBlock := by
  obtain ⟨i0, hi, hz0, hz1, hz2⟩ := info_parts strInfo
  obtain ⟨A, c, rfl⟩ := hr.shape
  cases A with
  | none =>
    have h0 : ys.length = 0 := by
      rcases Nat.eq_zero_or_pos ys.length with h | h
      · exact h
      · obtain ⟨g, c', hv, _⟩ := hr.form h
        cases hv
    rw [h0, List.eq_nil_of_length_eq_zero h0, List.append_nil]
    exact ⟨v, w, run_app_none w B 43 ty 9 i0 1 Try.underlying43 hi v xs.length c (xs.map Value.string) hown, hown, ⟨rfl, rfl, rfl, Nat.le_refl _, fun _ _ _ => rfl⟩⟩
  | some ad =>
    obtain ⟨v', w', hr, h2, h3, h4, h5⟩ := run_append_own_at (P := Try.prog) w B 43 ty 9 i0 (.string ⟨#[]⟩) 1 16 Try.underlying43 hi hz0 hz1 hz2 rfl (by decide) v xs.length (xs.map Value.string) hown
      ad ys.length c (ys.map Value.string) (by simp) (by
        intro j y hj
        rw [List.getElem?_map] at hj
        rcases Nat.lt_or_ge j ys.length with hlt | hge
        · obtain ⟨g, cc, hv, _⟩ := hr.form (by omega)
          injection hv with hv
          injection hv with hv
          subst hv
          have e := hr.cell hlt
          rw [List.getD_eq_getElem?_getD] at e
          rw [List.getElem?_eq_getElem hlt] at hj e
          injection hj with hj
          subst hj
          have e2 : (⟨g, 0, none⟩ : Addr).add j = ⟨g, j, none⟩ := by unfold Addr.add; split <;> simp_all
          rw [e2]
          exact e
        · rw [List.getElem?_eq_none hge] at hj
          cases hj) (by
        intro y hy
        rw [List.mem_map] at hy
        obtain ⟨n, _, rfl⟩ := hy
        rfl) (by unfold maxLen; omega) (by omega) hB
    refine ⟨v', w', hr, ?_, h3⟩
    unfold SRow
    rw [List.length_append, List.map_append]
    exact h2
theorem wpList_extendS {ops : Array Oper} {rest : List Oper} {o : Oper} {a : Act} {Q : Exit → Act → World → Prop} {w : World} (s x : Operand) (hgd : o.guard = none)
    (ho : o.op = .call { callee := .builtin .append, args := #[s, x], argTypes := #[43, 43] })
    (B B2 : Nat) (v u : Value) (xs ys : List ByteArray) (hs : a.eval s = v) (hown : SRow w B v xs) (hx : a.eval x = u) (hr : SRow w B2 u ys)
    (hlen : xs.length + ys.length ≤ 1099511627776) (hB : B ≤ w.heap.size)
    (h : ∀ v' w', SRow w' B v' (xs ++ ys) → w.grownBy w' v.ownBlock → wpList Try.prog ops Q rest (a.put o.dst v') w') :
    wpList Try.prog ops Q (o :: rest) a w := by
  refine wpList_plain hgd fun K hK => ?_
  obtain ⟨v', w', hr, h2, h3⟩ := run_extendS w o.type B B2 v u xs ys hown hr hlen hB
  unfold Oper.wp execOp
  simp only [ho, resolve, invoke, builtin, Sem.run_bind, Sem.run_pure, Result.andThen_ok, List.map_toArray, List.map_cons, List.map_nil, hs, hx, hr]
  exact hK _ _ (h v' w' h2 h3)
end Go.Proofs.Ytlgiamgjimffnaa
