/- Pack 7 of what FnExactVotesOfTable needs: RotI, TOwn. -/
import Derived.Test.YtmfcknlpbliehaaDoorKFnExactVotesOfTable6
import Derived.Laws.OwnMore
import Derived.Deep.RegionHeld3
/- joinLists, the program's RotateList. -/
namespace Go.Proofs.YtmfcknlpbliehaaDoor
open Go.RowKit
set_option maxRecDepth 100000 in
set_option linter.unusedVariables false
theorem run_append_none {P : Program} (w : World) (base : Nat) (t ty e : TypeId) (i : TypeInfo) (size : Nat) (ht : P.underlying t = some (.slice e)) (hi : P.info? e = some i)
    (v : Value) (n c : Nat) (xs : List Value) (hown : w.ownsRow base e size v n xs) :
    (Builtin.append_ #[t, t] ty #[v, .slice none 0 c]).run P w = .ok v w := by
  rcases hown.2 with ⟨rfl, rfl⟩ | ⟨g, cap, cur, rfl, _, _, hnc, _⟩
  · simp [Builtin.append_, run_underlying ht, sizeOf, typeInfo, hi, Builtin.lenOf, Builtin.firstCells]
  · simp [Builtin.append_, run_underlying ht, sizeOf, typeInfo, hi, Builtin.lenOf, Builtin.firstCells, hnc, storeCells]
set_option maxRecDepth 100000 in
/-- append of what a slice holds that is only read, perhaps nil -/
theorem run_extendR (w : World) (ty : TypeId) (B : Nat) (v u : Value) (xs ys : List Int) (hown : IRow w B v xs) (hr : RInts w u ys) (hlen : xs.length + ys.length ≤ 1099511627776) (hB : B ≤ w.heap.size) :
    ∃ v' w', (Builtin.append_ #[33, 33] ty #[v, u]).run Tryd.prog w = .ok v' w' ∧ IRow w' B v' (xs ++ ys) ∧ w.grownBy w' v.ownBlock := by
  obtain ⟨i0, hi, hz0, hz1, hz2⟩ := info_parts intInfo
  obtain ⟨A, c, rfl⟩ := hr.shape
  cases A with
  | none =>
    have h0 : ys.length = 0 := by
      rcases Nat.eq_zero_or_pos ys.length with h | h
      · exact h
      · obtain ⟨g, o, cc, hv, _⟩ := hr.cells h
        cases hv
    rw [h0, List.eq_nil_of_length_eq_zero h0, List.append_nil]
    exact ⟨v, w, run_append_none w B 33 ty 3 i0 1 Tryd.underlying33 hi v xs.length c _ hown, hown, ⟨rfl, rfl, rfl, Nat.le_refl _, fun _ _ _ => rfl⟩⟩
  | some ad =>
    obtain ⟨v', w', hr, h2, h3, h4, h5⟩ := run_append_own_at (P := Tryd.prog) w B 33 ty 3 i0 (.int .i64 0) 1 8 Tryd.underlying33 hi hz0 hz1 hz2 rfl (by decide) v xs.length (xs.map (Value.int .i64)) hown
      ad ys.length c (ys.map (Value.int .i64)) (by simp) (by
        intro j y hj
        rw [List.getElem?_map] at hj
        rcases Nat.lt_or_ge j ys.length with hlt | hge
        · obtain ⟨g, o, cc, hv, _, hc⟩ := hr.cells (by omega)
          injection hv with hv
          injection hv with hv
          subst hv
          have e := hc j hlt
          rw [List.getD_eq_getElem?_getD] at e
          rw [List.getElem?_eq_getElem hlt] at hj e
          injection hj with hj
          subst hj
          have e2 : (⟨g, o, none⟩ : Addr).add j = ⟨g, o + j, none⟩ := by unfold Addr.add; split <;> simp_all
          rw [e2]
          exact e
        · rw [List.getElem?_eq_none hge] at hj
          cases hj) (by
        intro y hy
        rw [List.mem_map] at hy
        obtain ⟨n, _, rfl⟩ := hy
        rfl) (by unfold maxLen; omega) (by omega) hB
    refine ⟨v', w', hr, ?_, h3⟩
    unfold IRow
    rw [List.length_append, List.map_append]
    exact h2
set_option maxRecDepth 100000 in
theorem wpList_extendR {ops : Array Oper} {rest : List Oper} {o : Oper} {a : Act} {Q : Exit → Act → World → Prop} {w : World} (s x : Operand) (hgd : o.guard = none)
    (ho : o.op = .call { callee := .builtin .append, args := #[s, x], argTypes := #[33, 33] })
    (B : Nat) (v u : Value) (xs ys : List Int) (hs : a.eval s = v) (hown : IRow w B v xs) (hx : a.eval x = u) (hr : RInts w u ys)
    (hlen : xs.length + ys.length ≤ 1099511627776) (hB : B ≤ w.heap.size)
    (h : ∀ v' w', IRow w' B v' (xs ++ ys) → w.grownBy w' v.ownBlock → wpList Tryd.prog ops Q rest (a.put o.dst v') w') :
    wpList Tryd.prog ops Q (o :: rest) a w := by
  refine wpList_plain hgd fun K hK => ?_
  obtain ⟨v', w', hr, h2, h3⟩ := run_extendR w o.type B v u xs ys hown hr hlen hB
  unfold Oper.wp execOp
  simp only [ho, resolve, invoke, builtin, Sem.run_bind, Sem.run_pure, Result.andThen_ok, List.map_toArray, List.map_cons, List.map_nil, hs, hx, hr]
  exact hK _ _ (h v' w' h2 h3)
/-- a slice of slices that are only read -/
structure LRows (w : World) (v : Value) (xss : List (List Int)) : Prop where
  shape : ∃ A c, v = .slice A xss.length c
  cells : 0 < xss.length → ∃ g o c, v = .slice (some ⟨g, o, none⟩) xss.length c ∧ g < w.heap.size ∧ ∀ j, j < xss.length → ∃ u, w.cell? ⟨g, o + j, none⟩ = some u ∧ RInts w u (xss.getD j [])
theorem LRows.below {w w' : World} {v : Value} {xss : List (List Int)} (h : LRows w v xss) (hb : Below w.heap.size w w') : LRows w' v xss :=
  ⟨h.shape, fun hx => by
    obtain ⟨g, o, c, hv, hg, hc⟩ := h.cells hx
    refine ⟨g, o, c, hv, Nat.lt_of_lt_of_le hg hb.size, fun j hj => ?_⟩
    obtain ⟨u, h1, h2⟩ := hc j hj
    exact ⟨u, (hb.cell (p := ⟨g, o + j, none⟩) hg).trans h1, h2.below hb⟩⟩
theorem flat_take (xss : List (List Int)) (k : Nat) (hk : k < xss.length) : (xss.take (k + 1)).flatten = (xss.take k).flatten ++ xss.getD k [] := by
  rw [List.take_succ_eq_append_getElem hk, List.flatten_append, List.getD_eq_getElem?_getD, List.getElem?_eq_getElem hk]
  simp
theorem flat_le (xss : List (List Int)) (k : Nat) : (xss.take k).flatten.length ≤ xss.flatten.length := by
  have h : xss.flatten = (xss.take k).flatten ++ (xss.drop k).flatten := by rw [← List.flatten_append, List.take_append_drop]
  rw [h, List.length_append]
  omega
theorem RInts.part {w : World} {g o c : Nat} {xs : List Int} (a n c2 : Nat) (hg : g < w.heap.size) (hcells : ∀ j, j < xs.length → w.cell? ⟨g, o + j, none⟩ = some (.int .i64 (xs.getD j 0)))
    (ys : List Int) (hy : ys = (xs.drop a).take n) (hn : a + n ≤ xs.length) (hc : n ≤ c2) (hm : c2 ≤ maxLen) : RInts w (.slice (some ⟨g, o + a, none⟩) n c2) ys := by
  have hl : ys.length = n := by rw [hy, List.length_take, List.length_drop]; omega
  refine ⟨⟨_, _, by rw [hl]⟩, fun A m c e => by injection e with e1 e2 e3; subst e2 e3; exact ⟨hc, hm⟩, fun h0 => ⟨g, o + a, c2, by rw [hl], hg, fun j hj => ?_⟩⟩
  rw [hl] at hj
  rw [hy, Nat.add_assoc, hcells (a + j) (by omega), List.getD_eq_getElem?_getD, List.getD_eq_getElem?_getD, List.getElem?_take, if_pos hj, List.getElem?_drop]
end Go.Proofs.YtmfcknlpbliehaaDoor

/- A slice of slices of ints that the call owns, each of them in a block of its own; the laws' eq, mark, held on such. -/
namespace Go.Proofs.YtmfcknlpbliehaaDoor
open Go.RowKit
set_option linter.unusedVariables false
abbrev NilS : Value := .slice none 0 0
structure TRow (w : World) (B M : Nat) (v : Value) (vs : List Value) (xss : List (List Int)) : Prop where
  len : vs.length = xss.length
  out : VRow w B v vs
  outM : ∀ k, v.ownBlock = some k → k < M
  row : ∀ j, j < xss.length → IRow w B (vs.getD j NilS) (xss.getD j [])
  rowM : ∀ j, j < xss.length → ∀ k, (vs.getD j NilS).ownBlock = some k → k < M
  apart : ∀ i j, i < xss.length → j < xss.length → i ≠ j → ∀ a b, (vs.getD i NilS).ownBlock = some a → (vs.getD j NilS).ownBlock = some b → a ≠ b
  off : ∀ j, j < xss.length → ∀ a b, v.ownBlock = some a → (vs.getD j NilS).ownBlock = some b → a ≠ b
  size : M ≤ w.heap.size
namespace TRow
variable {w w' : World} {B M : Nat} {v : Value} {vs : List Value} {xss : List (List Int)}
theorem nil (hM : M ≤ w.heap.size) : TRow w B M (.slice none 0 0) [] [] :=
  ⟨rfl, VRow.nil _ _, (fun k h => by cases h), (fun j h => absurd h (by simp)), (fun j h => absurd h (by simp)), (fun i j h => absurd h (by simp)), (fun j h => absurd h (by simp)), hM⟩
theorem outB (h : TRow w B M v vs xss) : ∀ k, v.ownBlock = some k → B ≤ k ∧ k < M := fun k hk => ⟨(h.out.blk k hk).1, h.outM k hk⟩
theorem rowB (h : TRow w B M v vs xss) {j : Nat} (hj : j < xss.length) : ∀ k, (vs.getD j NilS).ownBlock = some k → B ≤ k ∧ k < M := fun k hk => ⟨((h.row j hj).blk k hk).1, h.rowM j hj k hk⟩
/-- something else turned: a block that is none of its own -/
theorem keep {r : Option Nat} (h : TRow w B M v vs xss) (hg : w.grownBy w' r) (hr : ∀ k, r = some k → k < B ∨ M ≤ k) : TRow w' B M v vs xss where
  len := h.len
  out := h.out.apart hg (fun k hk e => by have := hr k e.symm; have := h.outB k hk; omega)
  outM := h.outM
  row j hj := World.ownsRow.kept (h.row j hj) hg (by
    cases e : (vs.getD j NilS).ownBlock with
    | none => exact .inl rfl
    | some k => exact .inr (fun e2 => by have := hr k e2.symm; have := h.rowB hj k e; omega))
  rowM := h.rowM
  apart := h.apart
  off := h.off
  size := Nat.le_trans h.size hg.size
theorem below (h : TRow w B M v vs xss) (hb : Below w.heap.size w w') : TRow w' B M v vs xss :=
  h.keep (r := none) ⟨hb.os, hb.tape, hb.output, hb.size, fun k hk _ => hb.block k hk⟩ (fun k e => by cases e)
theorem drewN (h : TRow w B M v vs xss) (n : Nat) : TRow (w.drewN n) B M v vs xss := ⟨h.len, h.out, h.outM, h.row, h.rowM, h.apart, h.off, h.size⟩
theorem mono (h : TRow w B M v vs xss) {B' M' : Nat} (hB : B' ≤ B) (hM : M ≤ M') (hs : M' ≤ w.heap.size) : TRow w B' M' v vs xss :=
  ⟨h.len, h.out.mono hB, fun k hk => Nat.lt_of_lt_of_le (h.outM k hk) hM, fun j hj => (h.row j hj).mono hB, fun j hj k hk => Nat.lt_of_lt_of_le (h.rowM j hj k hk) hM, h.apart, h.off, hs⟩
theorem getD_app {α : Type} (a : List α) (u d : α) (j : Nat) : (a ++ [u]).getD j d = if j < a.length then a.getD j d else if j = a.length then u else d := by
  rw [List.getD_eq_getElem?_getD]
  by_cases h1 : j < a.length
  · rw [if_pos h1, List.getElem?_append_left h1, ← List.getD_eq_getElem?_getD]
  · rw [if_neg h1]
    by_cases h2 : j = a.length
    · subst h2; rw [if_pos rfl]; simp
    · rw [if_neg h2, List.getElem?_eq_none (by simp; omega)]; rfl
/-- one more slice appended -/
theorem push {v' u : Value} {t : List Int} (h : TRow w B M v vs xss) (hu : IRow w M u t) (hBM : B ≤ M) (hr : VRow w' B v' (vs ++ [u])) (hg : w.grownBy w' v.ownBlock) (hat : v'.ownBlock = v.ownBlock ∨ ∃ g, v'.ownBlock = some g ∧ w.heap.size ≤ g) :
    TRow w' B w'.heap.size v' (vs ++ [u]) (xss ++ [t]) := by
  have k1 : ∀ j, j < xss.length → IRow w' B (vs.getD j NilS) (xss.getD j []) := fun j hj => World.ownsRow.kept (h.row j hj) hg (by
    cases e : (vs.getD j NilS).ownBlock with
    | none => exact .inl rfl
    | some k => exact .inr (fun e2 => h.off j hj k k e2.symm e rfl))
  have k3 : IRow w' M u t := World.ownsRow.kept hu hg (by
    cases e : u.ownBlock with
    | none => exact .inl rfl
    | some k => exact .inr (fun e2 => by have := h.outM k e2.symm; have := (hu.blk k e).1; omega))
  have k2 : IRow w' B u t := k3.mono hBM
  have hl := h.len
  have hs := hg.size
  have o1 : ∀ a, v'.ownBlock = some a → (∀ j, j < xss.length → ∀ b, (vs.getD j NilS).ownBlock = some b → a ≠ b) ∧ (∀ b, u.ownBlock = some b → a ≠ b) := fun a ha => by
    rcases hat with e | ⟨g, e, hge⟩
    · rw [e] at ha
      exact ⟨fun j hj b hb => h.off j hj a b ha hb, fun b hb => by have := h.outM a ha; have := (hu.blk b hb).1; omega⟩
    · rw [e] at ha
      injection ha with ha
      exact ⟨fun j hj b hb => by have := h.rowM j hj b hb; have := h.size; omega, fun b hb => by have := (hu.blk b hb).2; omega⟩
  have gv : ∀ j, (vs ++ [u]).getD j NilS = if j < xss.length then vs.getD j NilS else if j = xss.length then u else NilS := fun j => by rw [getD_app, hl]
  have gx : ∀ j, (xss ++ [t]).getD j [] = if j < xss.length then xss.getD j [] else if j = xss.length then t else [] := fun j => getD_app _ _ _ _
  refine ⟨by simp [hl], hr, fun k hk => (hr.blk k hk).2, fun j hj => ?_, fun j hj k hk => ?_, fun i j hi hj hne a b ha hb => ?_, fun j hj a b ha hb => ?_, Nat.le_refl _⟩
  · rw [gv, gx]
    by_cases c : j < xss.length
    · rw [if_pos c, if_pos c]; exact k1 j c
    · have : j = xss.length := by simp at hj; omega
      rw [if_neg c, if_neg c, if_pos this, if_pos this]; exact k2
  · rw [gv] at hk
    by_cases c : j < xss.length
    · rw [if_pos c] at hk; exact ((k1 j c).blk k hk).2
    · have : j = xss.length := by simp at hj; omega
      rw [if_neg c, if_pos this] at hk; exact (k2.blk k hk).2
  · rw [gv] at ha hb
    by_cases c1 : i < xss.length <;> by_cases c2 : j < xss.length
    · rw [if_pos c1] at ha; rw [if_pos c2] at hb; exact h.apart i j c1 c2 hne a b ha hb
    · have : j = xss.length := by simp at hj; omega
      rw [if_pos c1] at ha; rw [if_neg c2, if_pos this] at hb
      have := h.rowM i c1 a ha
      have := (hu.blk b hb).1
      omega
    · have : i = xss.length := by simp at hi; omega
      rw [if_pos c2] at hb; rw [if_neg c1, if_pos this] at ha
      have := h.rowM j c2 b hb
      have := (hu.blk a ha).1
      omega
    · simp at hi hj; omega
  · rw [gv] at hb
    by_cases c : j < xss.length
    · rw [if_pos c] at hb; exact (o1 a ha).1 j c b hb
    · have : j = xss.length := by simp at hj; omega
      rw [if_neg c, if_pos this] at hb; exact (o1 a ha).2 b hb
/-- one of its rows turned -/
theorem turn {j : Nat} {ys : List Int} (h : TRow w B M v vs xss) (hj : j < xss.length) (hg : w.grownBy w' (vs.getD j NilS).ownBlock) (hy : IRow w' B (vs.getD j NilS) ys) : TRow w' B M v vs (xss.set j ys) := by
  refine ⟨by rw [List.length_set]; exact h.len, h.out.apart hg (fun k hk e => h.off j hj k k hk e.symm rfl), h.outM, fun i hi => ?_, fun i hi => h.rowM i (by simpa using hi), fun i i' hi hi' => h.apart i i' (by simpa using hi) (by simpa using hi'), fun i hi => h.off i (by simpa using hi), Nat.le_trans h.size hg.size⟩
  rw [List.length_set] at hi
  by_cases e : i = j
  · subst e
    have : (xss.set i ys).getD i [] = ys := by rw [List.getD_eq_getElem?_getD, List.getElem?_set, if_pos rfl, if_pos hi]; rfl
    rw [this]
    exact hy
  · have : (xss.set j ys).getD i [] = xss.getD i [] := by rw [List.getD_eq_getElem?_getD, List.getElem?_set, if_neg (fun e2 => e e2.symm), ← List.getD_eq_getElem?_getD]
    rw [this]
    exact World.ownsRow.kept (h.row i hi) hg (by
      cases e3 : (vs.getD i NilS).ownBlock with
      | none => exact .inl rfl
      | some k => exact .inr (fun e2 => h.apart i j hi hj e k k e3 e2.symm rfl))
theorem rows (h : TRow w B M v vs xss) : LRows w v xss := by
  obtain ⟨A, c, rfl⟩ := h.out.shape
  rw [h.len]
  refine ⟨⟨_, _, rfl⟩, fun hx => ?_⟩
  obtain ⟨g, c', hv, _, hg, _⟩ := h.out.form h.len hx
  rw [h.len] at hv
  refine ⟨g, 0, c', hv, hg, fun j hj => ⟨vs.getD j NilS, ?_, RInts.of_row (h.row j hj)⟩⟩
  have ho := h.out
  rw [h.len, hv] at ho
  rw [Nat.zero_add]
  exact ho.cell (by rw [h.len]; exact hj)
end TRow
theorem TRow.form {w : World} {B M : Nat} {v : Value} {vs : List Value} {xss : List (List Int)} {n : Nat} (h : TRow w B M v vs xss) (hn : xss.length = n) (hx : 0 < n) : ∃ g c, v = .slice (some ⟨g, 0, none⟩) n c ∧ B ≤ g ∧ g < M ∧ ∀ j, j < n → w.cell? ⟨g, j, none⟩ = some (vs.getD j NilS) := by
  obtain ⟨g, c, hv, h1, h2, _⟩ := h.out.form (h.len.trans hn) hx
  subst hv
  exact ⟨g, c, rfl, h1, h.outM g rfl, fun j hj => h.out.cell (by rw [h.len, hn]; exact hj)⟩
def TabsRet (w : World) (ok : Bool) (xss : List (List Int)) (e : Ending) (w' : World) : Prop :=
  ∃ v vs, e = .returned (.tuple #[v, .bool ok]) ∧ TRow w' w.heap.size w'.heap.size v vs xss ∧ Below w.heap.size w w'
def TabsNew (w : World) (xss : List (List Int)) (e : Ending) (w' : World) : Prop :=
  ∃ v vs, e = .returned v ∧ TRow w' w.heap.size w'.heap.size v vs xss ∧ Below w.heap.size w w'
set_option maxHeartbeats 800000 in
theorem eqTabs_same (v1 v2 : Value) (vs1 vs2 : List Value) (xss : List (List Int)) (B1 B2 M1 M2 : Nat) (w : World) (h1 : TRow w B1 M1 v1 vs1 xss) (h2 : TRow w B2 M2 v2 vs2 xss) (hl : xss.length ≤ 1048576) (hs : xss.flatten.length ≤ 1099511627776) :
    Calls Tryd.prog 11 #[v1, v2] w fun e w' => e = .returned (.bool true) ∧ ∃ n, w' = w.drewN n := by
  by_cases h0 : xss.length = 0
  · obtain ⟨A1, c1, rfl⟩ := h1.out.shape
    obtain ⟨A2, c2, rfl⟩ := h2.out.shape
    rw [h1.len, h2.len, h0]
    clear h1 h2
    go_enter Tryd.func11, Tryd.ntmps11
    go_wp2
    refine wp_loop_rounds 1 ?_; rw [rounds_succ]
    go_wp2
    go_ret
    exact ⟨rfl, 0, rfl⟩
  · obtain ⟨g1, c1, rfl, _, _, q1⟩ := h1.form rfl (by omega)
    obtain ⟨g2, c2, rfl, _, _, q2⟩ := h2.form rfl (by omega)
    have Q1 := Lib.hid q1
    have Q2 := Lib.hid q2
    have HE : Hid (∀ j, j < xss.length → ∀ W, (∃ n, W = w.drewN n) → Calls Tryd.prog 28 #[vs1.getD j NilS, vs2.getD j NilS] W fun e w' => e = .returned (.bool true) ∧ ∃ n, w' = w.drewN n) := Lib.hid fun j hj W hW => by
      obtain ⟨n, rfl⟩ := hW
      refine (eqInts_same _ _ _ _ _ _ ((h1.row j hj).drewN n) ((h2.row j hj).drewN n) ?_).mono fun e w' ⟨h1, m, h2⟩ => ⟨h1, n + m, by rw [h2]; simp [World.drewN, Nat.add_assoc]⟩
      have := flat_le xss (j + 1)
      rw [flat_take xss j hj, List.length_append] at this
      omega
    have HS1 : Hid (∀ j, j < xss.length → ∃ A c, vs1.getD j NilS = .slice A (xss.getD j []).length c) := Lib.hid fun j hj => (h1.row j hj).shape
    have HS2 : Hid (∀ j, j < xss.length → ∃ A c, vs2.getD j NilS = .slice A (xss.getD j []).length c) := Lib.hid fun j hj => (h2.row j hj).shape
    clear h1 h2 q1 q2 h0
    generalize xss.length = n at *
    go_enter Tryd.func11, Tryd.ntmps11
    go_wp2
    go_loopw [5] (fun i wr => ∃ k : Nat, k ≤ n ∧ i = .int .i64 k ∧ ∃ m, wr = w.drewN m) (fun i _ => n - (intOf i).toNat)
    case atStart => exact ⟨0, Nat.zero_le _, rfl, 0, rfl⟩
    case round =>
      obtain ⟨k, hk, rfl, m, rfl⟩ := hrel
      by_cases hlt : k < n
      · have e1 := Q1.out k hlt
        have e2 := Q2.out k hlt
        have HE1 := Lib.hid (HE.out k hlt)
        obtain ⟨A1, d1, p1⟩ := HS1.out k hlt
        obtain ⟨A2, d2, p2⟩ := HS2.out k hlt
        rw [p1] at e1 HE1
        rw [p2] at e2 HE1
        generalize (xss.getD k []).length = L at *
        have i1 : (k : Int) < (n : Int) := by omega
        clear p1 p2
        go_wp2
        go_region_law (go_simp; go_at_call 28; refine (HE1.out _ ⟨_, rfl⟩).mono ?_; rintro e w' ⟨rfl, m2, rfl⟩)
        all_goals (try go_wp2)
        all_goals first
          | exact ⟨⟨k + 1, by omega, by go_num, _, rfl⟩, by simp [intOf]; omega⟩
          | (go_roundw <;> first | exact ⟨k + 1, by omega, by go_num, _, rfl⟩ | (simp [intOf]; omega))
      · go_wp2
        go_ret
        exact ⟨rfl, m, rfl⟩
end Go.Proofs.YtmfcknlpbliehaaDoor
