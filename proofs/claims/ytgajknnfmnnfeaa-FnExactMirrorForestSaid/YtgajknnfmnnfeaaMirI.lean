/- slices.Reverse on a slice of slices; mirrored, the program's MirrorForest. -/
import Derived.Test.YtgajknnfmnnfeaaTreesI
import Derived.Test.YtgajknnfmnnfeaaTOwn
import Derived.Test.YtgajknnfmnnfeaaForNth
import Derived.Test.YtgajknnfmnnfeaaMirS
namespace Go.Proofs.Ytgajknnfmnnfeaa
open Go.RowKit
set_option linter.unusedVariables false
theorem RInts.apart {w w' : World} {v : Value} {xs : List Int} {r : Option Nat} (h : RInts w v xs) (hg : w.grownBy w' r) (hne : ∀ k, v.ownBlock = some k → some k ≠ r) : RInts w' v xs :=
  ⟨h.shape, h.room, fun hx => by
    obtain ⟨g, o, c, hv, hgs, hc⟩ := h.cells hx
    have hb := hg.block g hgs (hne g (by rw [hv]; rfl))
    exact ⟨g, o, c, hv, Nat.lt_of_lt_of_le hgs hg.size, fun j hj => (World.cell?_of_block (a := ⟨g, o + j, none⟩) hb).trans (hc j hj)⟩⟩
/-- a slice of the call's own that holds slices which are only read -/
structure VInts (w : World) (B : Nat) (v : Value) (vs : List Value) (pss : List (List Int)) : Prop where
  len : vs.length = pss.length
  out : VRow w B v vs
  each : ∀ j, j < pss.length → RInts w (vs.getD j NilS) (pss.getD j [])
  off : ∀ j, j < pss.length → ∀ a b, v.ownBlock = some a → (vs.getD j NilS).ownBlock = some b → a ≠ b
  sm : ∀ j, j < pss.length → ∀ b, (vs.getD j NilS).ownBlock = some b → b < w.heap.size
theorem VInts.below {w w' : World} {B : Nat} {v : Value} {vs : List Value} {pss : List (List Int)} (h : VInts w B v vs pss) (hb : Below w.heap.size w w') : VInts w' B v vs pss :=
  ⟨h.len, h.out.below hb, fun j hj => (h.each j hj).below hb, h.off, fun j hj b hb2 => Nat.lt_of_lt_of_le (h.sm j hj b hb2) hb.size⟩
theorem VInts.rows {w : World} {B : Nat} {v : Value} {vs : List Value} {pss : List (List Int)} (h : VInts w B v vs pss) : LRows w v pss := by
  obtain ⟨A, c, rfl⟩ := h.out.shape
  rw [h.len]
  refine ⟨⟨_, _, rfl⟩, fun hx => ?_⟩
  obtain ⟨g, c', hv, _, hg, _⟩ := h.out.form h.len hx
  rw [h.len] at hv
  refine ⟨g, 0, c', hv, hg, fun j hj => ⟨vs.getD j NilS, ?_, h.each j hj⟩⟩
  have ho := h.out
  rw [h.len, hv] at ho
  rw [Nat.zero_add]
  exact ho.cell (by rw [h.len]; exact hj)
theorem gset {α : Type} (l : List α) (i j : Nat) (u d : α) (hi : i < l.length) : (l.set i u).getD j d = if j = i then u else l.getD j d := by
  rw [List.getD_eq_getElem?_getD, List.getElem?_set]
  by_cases e : i = j
  · rw [if_pos e, if_pos e.symm, if_pos hi]; rfl
  · rw [if_neg e, if_neg (fun h => e h.symm), ← List.getD_eq_getElem?_getD]
theorem swap_set {α : Type} (l : List α) (i j : Nat) (d : α) (k : Nat) (hi : i < l.length) (hj : j < l.length) (hij : i ≠ j) :
    ((l.set i (l.getD j d)).set j (l.getD i d)).getD k d = if k = j then l.getD i d else if k = i then l.getD j d else l.getD k d := by
  rw [gset _ _ _ _ _ (by rw [List.length_set]; exact hj), gset _ _ _ _ _ hi]
/-- the first i and the last i are swapped -/
def revd {α : Type} (l : List α) (d : α) (i : Nat) (k : Nat) : α := if k < i ∨ l.length - 1 - i < k then l.getD (l.length - 1 - k) d else l.getD k d
def RevTo {α : Type} (l l' : List α) (d : α) (i : Nat) : Prop := l'.length = l.length ∧ ∀ k, k < l.length → l'.getD k d = revd l d i k
theorem RevTo.zero {α : Type} (l : List α) (d : α) : RevTo l l d 0 := ⟨rfl, fun k hk => by unfold revd; rw [if_neg (by omega)]⟩
theorem RevTo.next {α : Type} {l l' : List α} {d : α} {i : Nat} (h : RevTo l l' d i) (hi : i < l.length - 1 - i) :
    RevTo l ((l'.set i (l'.getD (l.length - 1 - i) d)).set (l.length - 1 - i) (l'.getD i d)) d (i + 1) := by
  refine ⟨by rw [List.length_set, List.length_set]; exact h.1, fun k hk => ?_⟩
  have hl := h.1
  rw [swap_set l' i _ d k (by omega) (by omega) (by omega), h.2 i (by omega), h.2 (l.length - 1 - i) (by omega), h.2 k hk]
  unfold revd
  by_cases c1 : k = l.length - 1 - i
  · rw [if_pos c1, if_neg (by omega), if_pos (by omega), c1]
    congr 1
    omega
  · rw [if_neg c1]
    by_cases c2 : k = i
    · rw [if_pos c2, if_neg (by omega), if_pos (by omega), c2]
    · rw [if_neg c2]
      by_cases c3 : k < i ∨ l.length - 1 - i < k
      · rw [if_pos c3, if_pos (by omega)]
      · rw [if_neg c3, if_neg (by omega)]
theorem RevTo.full {α : Type} {l l' : List α} {d : α} {i : Nat} (h : RevTo l l' d i) (hi : ¬ i < l.length - 1 - i) : l' = l.reverse := by
  apply List.ext_getElem
  · rw [List.length_reverse]; exact h.1
  · intro k h1 h2
    have hl := h.1
    have e := h.2 k (by omega)
    rw [List.getD_eq_getElem?_getD, List.getElem?_eq_getElem h1, Option.getD_some] at e
    rw [e, List.getElem_reverse]
    unfold revd
    split
    · rw [List.getD_eq_getElem?_getD, List.getElem?_eq_getElem (by omega), Option.getD_some]
    · rw [List.getD_eq_getElem?_getD, List.getElem?_eq_getElem (by omega), Option.getD_some]
      congr 1
      omega
set_option maxHeartbeats 1600000 in
theorem revV_any (g c n B : Nat) (vs : List Value) (w : World) (h : VRow w B (.slice (some ⟨g, 0, none⟩) n c) vs) (hn : n ≤ 1048576) (hsl : ∀ j, j < vs.length → ∃ A a b, vs.getD j NilS = .slice A a b) :
    Calls Try.prog 100 #[.slice (some ⟨g, 0, none⟩) n c] w fun e w' => e = .returned UnitV ∧ VRow w' B (.slice (some ⟨g, 0, none⟩) n c) vs.reverse ∧ w.grownBy w' (some g) := by
  have hln := h.len
  subst hln
  go_enter Try.func100, Try.ntmps100
  go_wp2_with fail
  go_loopw [2, 3] (fun i j wr => ∃ (k : Nat) (us : List Value), k ≤ vs.length ∧ i = .int .i64 (k : Int) ∧ j = .int .i64 ((vs.length : Int) - 1 - (k : Int)) ∧ RevTo vs us NilS k ∧ VRow wr B (.slice (some ⟨g, 0, none⟩) vs.length c) us ∧ w.grownBy wr (some g)) (fun i _ _ => vs.length + 1 - (intOf i).toNat)
  case atStart => exact ⟨0, vs, by omega, rfl, by go_num, RevTo.zero _ _, h, grown_refl' _ _⟩
  case round =>
    obtain ⟨k, us, hk, rfl, rfl, hrv, hrow, hg⟩ := hrel
    clear h
    have hul := hrv.1
    by_cases hlt : k < vs.length - 1 - k
    · have e1 := hrow.cell (j := k) (by omega)
      have e2 := hrow.cell (j := vs.length - 1 - k) (by omega)
      have f1 := hrow.free k
      have f2 := hrow.free (vs.length - 1 - k)
      have s1 := hrow.set k (us.getD (vs.length - 1 - k) NilS)
      have s2 := s1.1.set (vs.length - 1 - k) (us.getD k NilS)
      have HNX := Lib.hid (hrv.next hlt)
      have HS2 := Lib.hid s2.1
      have HG2 := Lib.hid (grown_trans' hg (grown_trans' s1.2 s2.2))
      have e2' : (wr.setCell ⟨g, k, none⟩ (us.getD (vs.length - 1 - k) NilS)).cell? ⟨g, vs.length - 1 - k, none⟩ = some (us.getD (vs.length - 1 - k) NilS) := by
        rw [World.cell?_setCell_other wr ⟨g, k, none⟩ ⟨g, vs.length - 1 - k, none⟩ _ (fun e => by injection e with _ e4; omega)]
        exact e2
      have f2' : (wr.setCell ⟨g, k, none⟩ (us.getD (vs.length - 1 - k) NilS)).frozen? ⟨g, vs.length - 1 - k, none⟩ = false := by rw [World.frozen?_setCell]; exact f2
      obtain ⟨m, hm⟩ : ∃ m, m = vs.length - 1 - k := ⟨_, rfl⟩
      have hmi : (vs.length : Int) - 1 - (k : Int) = (m : Int) := by omega
      have hkm : k < m := by omega
      have hmn : m < vs.length := by omega
      have hkn : k < vs.length := by omega
      rw [hmi]
      rw [← hm] at e2 f2 e2' f2' HNX HS2 HG2
      have HM := Lib.hid hm
      have hsl1 : ∃ A a b, us.getD k NilS = .slice A a b := by rw [hrv.2 k (by omega)]; unfold revd; split <;> exact hsl _ (by omega)
      have hsl2 : ∃ A a b, us.getD m NilS = .slice A a b := by rw [hrv.2 m (by omega)]; unfold revd; split <;> exact hsl _ (by omega)
      obtain ⟨A1, a1, b1, p1⟩ := hsl1
      obtain ⟨A2, a2, b2, p2⟩ := hsl2
      clear hrow hrv hg s1 s2 hm hmi hsl hlt
      rw [p1, p2] at HS2 HG2 HNX
      rw [p1] at e1
      rw [p2] at e2 e2' f2'
      clear p1 p2
      go_wp2_with fail
      go_region_law fail
      all_goals (try go_wp2_with fail)
      all_goals first
        | exact ⟨⟨k + 1, _, by omega, by go_num, by have := HM.out; go_num, HNX.out, HS2.out.drew, ⟨HG2.out.os, HG2.out.tape, HG2.out.output, HG2.out.size, HG2.out.block⟩⟩, by simp [intOf]; omega⟩
        | (go_roundw <;> first | exact ⟨k + 1, _, by omega, by go_num, by have := HM.out; go_num, HNX.out, HS2.out.drew, ⟨HG2.out.os, HG2.out.tape, HG2.out.output, HG2.out.size, HG2.out.block⟩⟩ | (simp [intOf]; omega))
    · have HR := Lib.hid (hrv.full hlt)
      have HROW := Lib.hid hrow
      have HG := Lib.hid hg
      have i1 : ¬ (k : Int) < (vs.length : Int) - 1 - (k : Int) := by omega
      clear hrow hrv hg
      go_wp2_with fail
      go_end0
      rw [← HR.out]
      exact ⟨rfl, HROW.out, HG.out⟩
theorem revV_nil (w : World) : Calls Try.prog 100 #[.slice none 0 0] w fun e w' => e = .returned UnitV ∧ w = w' := by
  go_enter Try.func100, Try.ntmps100
  go_wp2_with fail
  refine wp_loop_rounds 1 ?_; rw [rounds_succ]
  go_wp2_with fail
  go_end0
  exact ⟨rfl, rfl⟩
theorem VInts.drew {w : World} {B : Nat} {v : Value} {vs : List Value} {pss : List (List Int)} (h : VInts w B v vs pss) : VInts w.drew B v vs pss :=
  h.below ((Below.refl _ _).drew)
theorem VInts.push2 {w w' : World} {B : Nat} {v v' a b : Value} {vs : List Value} {pss : List (List Int)} {pa pb : List Int} (h : VInts w B v vs pss)
    (ha : RInts w a pa) (hb : RInts w b pb) (oa : ∀ x k, v.ownBlock = some x → a.ownBlock = some k → x ≠ k) (ob : ∀ x k, v.ownBlock = some x → b.ownBlock = some k → x ≠ k)
    (sa : ∀ k, a.ownBlock = some k → k < w.heap.size) (sb : ∀ k, b.ownBlock = some k → k < w.heap.size)
    (hr : VRow w' B v' (vs ++ [a, b])) (hg : w.grownBy w' v.ownBlock) (hat : v'.ownBlock = v.ownBlock ∨ ∃ g, v'.ownBlock = some g ∧ w.heap.size ≤ g) :
    VInts w' B v' (vs ++ [a, b]) (pss ++ [pa, pb]) := by
  have hl := h.len
  have gv : ∀ j, (vs ++ [a, b]).getD j NilS = if j < pss.length then vs.getD j NilS else if j = pss.length then a else if j = pss.length + 1 then b else NilS := fun j => by
    rw [List.getD_eq_getElem?_getD]
    by_cases h1 : j < pss.length
    · rw [if_pos h1, List.getElem?_append_left (by omega), ← List.getD_eq_getElem?_getD]
    · rw [if_neg h1, List.getElem?_append_right (by omega)]
      by_cases h2 : j = pss.length
      · rw [if_pos h2, show j - vs.length = 0 by omega]; rfl
      · rw [if_neg h2]
        by_cases h3 : j = pss.length + 1
        · rw [if_pos h3, show j - vs.length = 1 by omega]; rfl
        · rw [if_neg h3, List.getElem?_eq_none (by simp; omega)]; rfl
  have gx : ∀ j, (pss ++ [pa, pb]).getD j [] = if j < pss.length then pss.getD j [] else if j = pss.length then pa else if j = pss.length + 1 then pb else [] := fun j => by
    rw [List.getD_eq_getElem?_getD]
    by_cases h1 : j < pss.length
    · rw [if_pos h1, List.getElem?_append_left (by omega), ← List.getD_eq_getElem?_getD]
    · rw [if_neg h1, List.getElem?_append_right (by omega)]
      by_cases h2 : j = pss.length
      · rw [if_pos h2, show j - pss.length = 0 by omega]; rfl
      · rw [if_neg h2]
        by_cases h3 : j = pss.length + 1
        · rw [if_pos h3, show j - pss.length = 1 by omega]; rfl
        · rw [if_neg h3, List.getElem?_eq_none (by simp; omega)]; rfl
  have ap : ∀ {u : Value} {p : List Int}, RInts w u p → (∀ x k, v.ownBlock = some x → u.ownBlock = some k → x ≠ k) → RInts w' u p := fun hu ho => hu.apart hg (fun k hk e => ho k k e.symm hk rfl)
  have of : ∀ {u : Value}, (∀ x k, v.ownBlock = some x → u.ownBlock = some k → x ≠ k) → (∀ k, u.ownBlock = some k → k < w.heap.size) → ∀ x k, v'.ownBlock = some x → u.ownBlock = some k → x ≠ k := fun ho hs x k hx hk => by
    have h1 := hs k hk
    rcases hat with e | ⟨g, e, hge⟩
    · rw [e] at hx; exact ho x k hx hk
    · rw [e] at hx; injection hx with hx; omega
  refine ⟨by simp [hl], hr, fun j hj => ?_, fun j hj x k hx hk => ?_, fun j hj k hk => Nat.lt_of_lt_of_le ?_ hg.size⟩
  · rw [gv, gx]
    by_cases c1 : j < pss.length
    · rw [if_pos c1, if_pos c1]; exact ap (h.each j c1) (fun x k hx hk => h.off j c1 x k hx hk)
    · rw [if_neg c1, if_neg c1]
      by_cases c2 : j = pss.length
      · rw [if_pos c2, if_pos c2]; exact ap ha oa
      · have c3 : j = pss.length + 1 := by simp at hj; omega
        rw [if_neg c2, if_neg c2, if_pos c3, if_pos c3]; exact ap hb ob
  · rw [gv] at hk
    by_cases c1 : j < pss.length
    · rw [if_pos c1] at hk; exact of (h.off j c1) (h.sm j c1) x k hx hk
    · rw [if_neg c1] at hk
      by_cases c2 : j = pss.length
      · rw [if_pos c2] at hk; exact of oa sa x k hx hk
      · have c3 : j = pss.length + 1 := by simp at hj; omega
        rw [if_neg c2, if_pos c3] at hk; exact of ob sb x k hx hk
  · rw [gv] at hk
    by_cases c1 : j < pss.length
    · rw [if_pos c1] at hk; exact h.sm j c1 k hk
    · rw [if_neg c1] at hk
      by_cases c2 : j = pss.length
      · rw [if_pos c2] at hk; exact sa k hk
      · have c3 : j = pss.length + 1 := by simp at hj; omega
        rw [if_neg c2, if_pos c3] at hk; exact sb k hk
theorem run_push2V (w : World) (ty : TypeId) (B : Nat) (v u1 u2 : Value) (xs : List Value) (hown : VRow w B v xs) (gb : Nat) (h1 : w.cell? ⟨gb, 0, none⟩ = some u1) (h2 : w.cell? ⟨gb, 1, none⟩ = some u2) (hu1 : u1.oneCell' = true) (hu2 : u2.oneCell' = true) (hlen : xs.length ≤ 2000000) (hB : B ≤ w.heap.size) :
    ∃ v' w', (Builtin.append_ #[35, 35] ty #[v, .slice (some ⟨gb, 0, none⟩) 2 2]).run Try.prog w = .ok v' w' ∧ VRow w' B v' (xs ++ [u1, u2]) ∧ w.grownBy w' v.ownBlock ∧ (v'.ownBlock = v.ownBlock ∨ ∃ g, v'.ownBlock = some g ∧ w.heap.size ≤ g) := by
  obtain ⟨i0, hi, hz0, hz1, hz2⟩ := info_parts vecInfo
  obtain ⟨v', w', hr, q2, q3, q4, q5⟩ := run_append_own_at (P := Try.prog) w B 35 ty 22 i0 (.slice none 0 0) 1 24 Try.underlying35 hi hz0 hz1 hz2 rfl (by decide) v xs.length xs hown
    ⟨gb, 0, none⟩ 2 2 [u1, u2] rfl (by
      intro j y hj
      match j, hj with
      | 0, hj => simp at hj; subst hj; simpa [Addr.add] using h1
      | 1, hj => simp at hj; subst hj; simpa [Addr.add] using h2) (by intro y hy; simp at hy; rcases hy with rfl | rfl; (· exact hu1); (· exact hu2)) (by unfold maxLen; omega) (by omega) hB
  refine ⟨v', w', hr, ?_, q3, ?_⟩
  · unfold VRow
    simpa using q2
  · rcases q5 with h5 | h5
    · exact .inl h5
    · exact .inr ⟨_, h5, Nat.le_refl _⟩
theorem step_push2V {ops : Array Oper} {o : Oper} {a : Act} {K : Act → World → Prop} {Q : Exit → Act → World → Prop} {E : Prop} {w : World} (s x : Operand) (hgd : o.guard = none)
    (ho : o.op = .call { callee := .builtin .append, args := #[s, x], argTypes := #[35, 35] })
    (B : Nat) (v : Value) (xs : List Value) (hs : a.eval s = v) (hown : VRow w B v xs) (gb : Nat) (u1 u2 : Value) (hx : a.eval x = .slice (some ⟨gb, 0, none⟩) 2 2)
    (h1 : w.cell? ⟨gb, 0, none⟩ = some u1) (h2 : w.cell? ⟨gb, 1, none⟩ = some u2) (hu1 : u1.oneCell' = true) (hu2 : u2.oneCell' = true) (hlen : xs.length ≤ 2000000) (hB : B ≤ w.heap.size)
    (h : ∀ v' w', VRow w' B v' (xs ++ [u1, u2]) → w.grownBy w' v.ownBlock → (v'.ownBlock = v.ownBlock ∨ ∃ g, v'.ownBlock = some g ∧ w.heap.size ≤ g) → K (a.put o.dst v') w') :
    if Region.wanted o (yielded ops a.tmps) = true then Oper.wp Try.prog o a w K Q else E := by
  have hw : Region.wanted o (yielded ops a.tmps) = true := by simp [Region.wanted, hgd]
  rw [if_pos hw]
  obtain ⟨v', w', hr, h2, h3, h4⟩ := run_push2V w o.type B v u1 u2 xs hown gb h1 h2 hu1 hu2 hlen hB
  unfold Oper.wp execOp
  simp only [ho, resolve, invoke, builtin, Sem.run_bind, Sem.run_pure, Result.andThen_ok, List.map_toArray, List.map_cons, List.map_nil, hs, hx, hr]
  exact h v' w' h2 h3 h4
end Go.Proofs.Ytgajknnfmnnfeaa
