/- Pack 28 of what FnExactRankOrdered needs: TOwn, TPut. -/
import Derived.Test.YtmfcknlpbliehaaDoorKFnExactRankOrdered27
import Derived.Deep.RegionHeld3
/- A slice of slices of ints that the call owns, each of them in a block of its own; the laws' eq, mark, held on such. -/
namespace Go.Proofs.YtmfcknlpbliehaaDoor
open Go.RowKit
set_option linter.unusedVariables false
abbrev NilS : Value := .slice none 0 0
structure TRow (w : World) (B M : Nat) (v : Value) (vs : List Value) (xss : List (List Int)) : Prop where
  len : vs.length = xss.length
  out : VRow w B v vs
  outM : ∀ k, v.ownBlock = some k → k < M
  row : ∀ j, j < xss.length → IRow w B (vs.getD j NilS) (xss.getD j [])
  rowM : ∀ j, j < xss.length → ∀ k, (vs.getD j NilS).ownBlock = some k → k < M
  apart : ∀ i j, i < xss.length → j < xss.length → i ≠ j → ∀ a b, (vs.getD i NilS).ownBlock = some a → (vs.getD j NilS).ownBlock = some b → a ≠ b
  off : ∀ j, j < xss.length → ∀ a b, v.ownBlock = some a → (vs.getD j NilS).ownBlock = some b → a ≠ b
  size : M ≤ w.heap.size
namespace TRow
variable {w w' : World} {B M : Nat} {v : Value} {vs : List Value} {xss : List (List Int)}
theorem nil (hM : M ≤ w.heap.size) : TRow w B M (.slice none 0 0) [] [] :=
  ⟨rfl, VRow.nil _ _, (fun k h => by cases h), (fun j h => absurd h (by simp)), (fun j h => absurd h (by simp)), (fun i j h => absurd h (by simp)), (fun j h => absurd h (by simp)), hM⟩
theorem outB (h : TRow w B M v vs xss) : ∀ k, v.ownBlock = some k → B ≤ k ∧ k < M := fun k hk => ⟨(h.out.blk k hk).1, h.outM k hk⟩
theorem rowB (h : TRow w B M v vs xss) {j : Nat} (hj : j < xss.length) : ∀ k, (vs.getD j NilS).ownBlock = some k → B ≤ k ∧ k < M := fun k hk => ⟨((h.row j hj).blk k hk).1, h.rowM j hj k hk⟩
/-- something else turned: a block that is none of its own -/
theorem keep {r : Option Nat} (h : TRow w B M v vs xss) (hg : w.grownBy w' r) (hr : ∀ k, r = some k → k < B ∨ M ≤ k) : TRow w' B M v vs xss where
  len := h.len
  out := h.out.apart hg (fun k hk e => by have := hr k e.symm; have := h.outB k hk; omega)
  outM := h.outM
  row j hj := World.ownsRow.kept (h.row j hj) hg (by
    cases e : (vs.getD j NilS).ownBlock with
    | none => exact .inl rfl
    | some k => exact .inr (fun e2 => by have := hr k e2.symm; have := h.rowB hj k e; omega))
  rowM := h.rowM
  apart := h.apart
  off := h.off
  size := Nat.le_trans h.size hg.size
theorem below (h : TRow w B M v vs xss) (hb : Below w.heap.size w w') : TRow w' B M v vs xss :=
  h.keep (r := none) ⟨hb.os, hb.tape, hb.output, hb.size, fun k hk _ => hb.block k hk⟩ (fun k e => by cases e)
theorem drewN (h : TRow w B M v vs xss) (n : Nat) : TRow (w.drewN n) B M v vs xss := ⟨h.len, h.out, h.outM, h.row, h.rowM, h.apart, h.off, h.size⟩
theorem mono (h : TRow w B M v vs xss) {B' M' : Nat} (hB : B' ≤ B) (hM : M ≤ M') (hs : M' ≤ w.heap.size) : TRow w B' M' v vs xss :=
  ⟨h.len, h.out.mono hB, fun k hk => Nat.lt_of_lt_of_le (h.outM k hk) hM, fun j hj => (h.row j hj).mono hB, fun j hj k hk => Nat.lt_of_lt_of_le (h.rowM j hj k hk) hM, h.apart, h.off, hs⟩
theorem getD_app {α : Type} (a : List α) (u d : α) (j : Nat) : (a ++ [u]).getD j d = if j < a.length then a.getD j d else if j = a.length then u else d := by
  rw [List.getD_eq_getElem?_getD]
  by_cases h1 : j < a.length
  · rw [if_pos h1, List.getElem?_append_left h1, ← List.getD_eq_getElem?_getD]
  · rw [if_neg h1]
    by_cases h2 : j = a.length
    · subst h2; rw [if_pos rfl]; simp
    · rw [if_neg h2, List.getElem?_eq_none (by simp; omega)]; rfl
/-- one more slice appended -/
theorem push {v' u : Value} {t : List Int} (h : TRow w B M v vs xss) (hu : IRow w M u t) (hBM : B ≤ M) (hr : VRow w' B v' (vs ++ [u])) (hg : w.grownBy w' v.ownBlock) (hat : v'.ownBlock = v.ownBlock ∨ ∃ g, v'.ownBlock = some g ∧ w.heap.size ≤ g) :
    TRow w' B w'.heap.size v' (vs ++ [u]) (xss ++ [t]) := by
  have k1 : ∀ j, j < xss.length → IRow w' B (vs.getD j NilS) (xss.getD j []) := fun j hj => World.ownsRow.kept (h.row j hj) hg (by
    cases e : (vs.getD j NilS).ownBlock with
    | none => exact .inl rfl
    | some k => exact .inr (fun e2 => h.off j hj k k e2.symm e rfl))
  have k3 : IRow w' M u t := World.ownsRow.kept hu hg (by
    cases e : u.ownBlock with
    | none => exact .inl rfl
    | some k => exact .inr (fun e2 => by have := h.outM k e2.symm; have := (hu.blk k e).1; omega))
  have k2 : IRow w' B u t := k3.mono hBM
  have hl := h.len
  have hs := hg.size
  have o1 : ∀ a, v'.ownBlock = some a → (∀ j, j < xss.length → ∀ b, (vs.getD j NilS).ownBlock = some b → a ≠ b) ∧ (∀ b, u.ownBlock = some b → a ≠ b) := fun a ha => by
    rcases hat with e | ⟨g, e, hge⟩
    · rw [e] at ha
      exact ⟨fun j hj b hb => h.off j hj a b ha hb, fun b hb => by have := h.outM a ha; have := (hu.blk b hb).1; omega⟩
    · rw [e] at ha
      injection ha with ha
      exact ⟨fun j hj b hb => by have := h.rowM j hj b hb; have := h.size; omega, fun b hb => by have := (hu.blk b hb).2; omega⟩
  have gv : ∀ j, (vs ++ [u]).getD j NilS = if j < xss.length then vs.getD j NilS else if j = xss.length then u else NilS := fun j => by rw [getD_app, hl]
  have gx : ∀ j, (xss ++ [t]).getD j [] = if j < xss.length then xss.getD j [] else if j = xss.length then t else [] := fun j => getD_app _ _ _ _
  refine ⟨by simp [hl], hr, fun k hk => (hr.blk k hk).2, fun j hj => ?_, fun j hj k hk => ?_, fun i j hi hj hne a b ha hb => ?_, fun j hj a b ha hb => ?_, Nat.le_refl _⟩
  · rw [gv, gx]
    by_cases c : j < xss.length
    · rw [if_pos c, if_pos c]; exact k1 j c
    · have : j = xss.length := by simp at hj; omega
      rw [if_neg c, if_neg c, if_pos this, if_pos this]; exact k2
  · rw [gv] at hk
    by_cases c : j < xss.length
    · rw [if_pos c] at hk; exact ((k1 j c).blk k hk).2
    · have : j = xss.length := by simp at hj; omega
      rw [if_neg c, if_pos this] at hk; exact (k2.blk k hk).2
  · rw [gv] at ha hb
    by_cases c1 : i < xss.length <;> by_cases c2 : j < xss.length
    · rw [if_pos c1] at ha; rw [if_pos c2] at hb; exact h.apart i j c1 c2 hne a b ha hb
    · have : j = xss.length := by simp at hj; omega
      rw [if_pos c1] at ha; rw [if_neg c2, if_pos this] at hb
      have := h.rowM i c1 a ha
      have := (hu.blk b hb).1
      omega
    · have : i = xss.length := by simp at hi; omega
      rw [if_pos c2] at hb; rw [if_neg c1, if_pos this] at ha
      have := h.rowM j c2 b hb
      have := (hu.blk a ha).1
      omega
    · simp at hi hj; omega
  · rw [gv] at hb
    by_cases c : j < xss.length
    · rw [if_pos c] at hb; exact (o1 a ha).1 j c b hb
    · have : j = xss.length := by simp at hj; omega
      rw [if_neg c, if_pos this] at hb; exact (o1 a ha).2 b hb
/-- one of its rows turned -/
theorem turn {j : Nat} {ys : List Int} (h : TRow w B M v vs xss) (hj : j < xss.length) (hg : w.grownBy w' (vs.getD j NilS).ownBlock) (hy : IRow w' B (vs.getD j NilS) ys) : TRow w' B M v vs (xss.set j ys) := by
  refine ⟨by rw [List.length_set]; exact h.len, h.out.apart hg (fun k hk e => h.off j hj k k hk e.symm rfl), h.outM, fun i hi => ?_, fun i hi => h.rowM i (by simpa using hi), fun i i' hi hi' => h.apart i i' (by simpa using hi) (by simpa using hi'), fun i hi => h.off i (by simpa using hi), Nat.le_trans h.size hg.size⟩
  rw [List.length_set] at hi
  by_cases e : i = j
  · subst e
    have : (xss.set i ys).getD i [] = ys := by rw [List.getD_eq_getElem?_getD, List.getElem?_set, if_pos rfl, if_pos hi]; rfl
    rw [this]
    exact hy
  · have : (xss.set j ys).getD i [] = xss.getD i [] := by rw [List.getD_eq_getElem?_getD, List.getElem?_set, if_neg (fun e2 => e e2.symm), ← List.getD_eq_getElem?_getD]
    rw [this]
    exact World.ownsRow.kept (h.row i hi) hg (by
      cases e3 : (vs.getD i NilS).ownBlock with
      | none => exact .inl rfl
      | some k => exact .inr (fun e2 => h.apart i j hi hj e k k e3 e2.symm rfl))
theorem rows (h : TRow w B M v vs xss) : LRows w v xss := by
  obtain ⟨A, c, rfl⟩ := h.out.shape
  rw [h.len]
  refine ⟨⟨_, _, rfl⟩, fun hx => ?_⟩
  obtain ⟨g, c', hv, _, hg, _⟩ := h.out.form h.len hx
  rw [h.len] at hv
  refine ⟨g, 0, c', hv, hg, fun j hj => ⟨vs.getD j NilS, ?_, RInts.of_row (h.row j hj)⟩⟩
  have ho := h.out
  rw [h.len, hv] at ho
  rw [Nat.zero_add]
  exact ho.cell (by rw [h.len]; exact hj)
end TRow
theorem TRow.form {w : World} {B M : Nat} {v : Value} {vs : List Value} {xss : List (List Int)} {n : Nat} (h : TRow w B M v vs xss) (hn : xss.length = n) (hx : 0 < n) : ∃ g c, v = .slice (some ⟨g, 0, none⟩) n c ∧ B ≤ g ∧ g < M ∧ ∀ j, j < n → w.cell? ⟨g, j, none⟩ = some (vs.getD j NilS) := by
  obtain ⟨g, c, hv, h1, h2, _⟩ := h.out.form (h.len.trans hn) hx
  subst hv
  exact ⟨g, c, rfl, h1, h.outM g rfl, fun j hj => h.out.cell (by rw [h.len, hn]; exact hj)⟩
def TabsRet (w : World) (ok : Bool) (xss : List (List Int)) (e : Ending) (w' : World) : Prop :=
  ∃ v vs, e = .returned (.tuple #[v, .bool ok]) ∧ TRow w' w.heap.size w'.heap.size v vs xss ∧ Below w.heap.size w w'
def TabsNew (w : World) (xss : List (List Int)) (e : Ending) (w' : World) : Prop :=
  ∃ v vs, e = .returned v ∧ TRow w' w.heap.size w'.heap.size v vs xss ∧ Below w.heap.size w w'
set_option maxHeartbeats 800000 in
theorem eqTabs_same (v1 v2 : Value) (vs1 vs2 : List Value) (xss : List (List Int)) (B1 B2 M1 M2 : Nat) (w : World) (h1 : TRow w B1 M1 v1 vs1 xss) (h2 : TRow w B2 M2 v2 vs2 xss) (hl : xss.length ≤ 1048576) (hs : xss.flatten.length ≤ 1099511627776) :
    Calls Tryd.prog 11 #[v1, v2] w fun e w' => e = .returned (.bool true) ∧ ∃ n, w' = w.drewN n := by
  by_cases h0 : xss.length = 0
  · obtain ⟨A1, c1, rfl⟩ := h1.out.shape
    obtain ⟨A2, c2, rfl⟩ := h2.out.shape
    rw [h1.len, h2.len, h0]
    clear h1 h2
    go_enter Tryd.func11, Tryd.ntmps11
    go_wp2
    refine wp_loop_rounds 1 ?_; rw [rounds_succ]
    go_wp2
    go_ret
    exact ⟨rfl, 0, rfl⟩
  · obtain ⟨g1, c1, rfl, _, _, q1⟩ := h1.form rfl (by omega)
    obtain ⟨g2, c2, rfl, _, _, q2⟩ := h2.form rfl (by omega)
    have Q1 := Lib.hid q1
    have Q2 := Lib.hid q2
    have HE : Hid (∀ j, j < xss.length → ∀ W, (∃ n, W = w.drewN n) → Calls Tryd.prog 28 #[vs1.getD j NilS, vs2.getD j NilS] W fun e w' => e = .returned (.bool true) ∧ ∃ n, w' = w.drewN n) := Lib.hid fun j hj W hW => by
      obtain ⟨n, rfl⟩ := hW
      refine (eqInts_same _ _ _ _ _ _ ((h1.row j hj).drewN n) ((h2.row j hj).drewN n) ?_).mono fun e w' ⟨h1, m, h2⟩ => ⟨h1, n + m, by rw [h2]; simp [World.drewN, Nat.add_assoc]⟩
      have := flat_le xss (j + 1)
      rw [flat_take xss j hj, List.length_append] at this
      omega
    have HS1 : Hid (∀ j, j < xss.length → ∃ A c, vs1.getD j NilS = .slice A (xss.getD j []).length c) := Lib.hid fun j hj => (h1.row j hj).shape
    have HS2 : Hid (∀ j, j < xss.length → ∃ A c, vs2.getD j NilS = .slice A (xss.getD j []).length c) := Lib.hid fun j hj => (h2.row j hj).shape
    clear h1 h2 q1 q2 h0
    generalize xss.length = n at *
    go_enter Tryd.func11, Tryd.ntmps11
    go_wp2
    go_loopw [5] (fun i wr => ∃ k : Nat, k ≤ n ∧ i = .int .i64 k ∧ ∃ m, wr = w.drewN m) (fun i _ => n - (intOf i).toNat)
    case atStart => exact ⟨0, Nat.zero_le _, rfl, 0, rfl⟩
    case round =>
      obtain ⟨k, hk, rfl, m, rfl⟩ := hrel
      by_cases hlt : k < n
      · have e1 := Q1.out k hlt
        have e2 := Q2.out k hlt
        have HE1 := Lib.hid (HE.out k hlt)
        obtain ⟨A1, d1, p1⟩ := HS1.out k hlt
        obtain ⟨A2, d2, p2⟩ := HS2.out k hlt
        rw [p1] at e1 HE1
        rw [p2] at e2 HE1
        generalize (xss.getD k []).length = L at *
        have i1 : (k : Int) < (n : Int) := by omega
        clear p1 p2
        go_wp2
        go_region_law (go_simp; go_at_call 28; refine (HE1.out _ ⟨_, rfl⟩).mono ?_; rintro e w' ⟨rfl, m2, rfl⟩)
        all_goals (try go_wp2)
        all_goals first
          | exact ⟨⟨k + 1, by omega, by go_num, _, rfl⟩, by simp [intOf]; omega⟩
          | (go_roundw <;> first | exact ⟨k + 1, by omega, by go_num, _, rfl⟩ | (simp [intOf]; omega))
      · go_wp2
        go_ret
        exact ⟨rfl, m, rfl⟩
end Go.Proofs.YtmfcknlpbliehaaDoor

/- A row of a slice of slices gets one more number, and is laid back. -/
namespace Go.Proofs.YtmfcknlpbliehaaDoor
open Go.RowKit
set_option linter.unusedVariables false
theorem getD_set {α : Type} (l : List α) (j i : Nat) (u d : α) (hj : j < l.length) : (l.set j u).getD i d = if i = j then u else l.getD i d := by
  rw [List.getD_eq_getElem?_getD, List.getElem?_set]
  by_cases e : j = i
  · subst e; rw [if_pos rfl, if_pos hj, if_pos rfl]; rfl
  · rw [if_neg e, if_neg (fun x => e x.symm), ← List.getD_eq_getElem?_getD]
theorem TRow.put {w w1 : World} {B M g n c : Nat} {vs : List Value} {xss : List (List Int)} (h : TRow w B M (.slice (some ⟨g, 0, none⟩) n c) vs xss) {j : Nat} (hj : j < xss.length) {u : Value} {ys : List Int}
    (hg : w.grownBy w1 (vs.getD j NilS).ownBlock) (hu : IRow w1 B u ys) (hat : u.ownBlock = (vs.getD j NilS).ownBlock ∨ ∃ q, u.ownBlock = some q ∧ w.heap.size ≤ q) :
    TRow (w1.setCell ⟨g, j, none⟩ u) B (w1.setCell ⟨g, j, none⟩ u).heap.size (.slice (some ⟨g, 0, none⟩) n c) (vs.set j u) (xss.set j ys) := by
  have hl := h.len
  have hs := hg.size
  have hgB := h.outB g rfl
  have hng : ∀ a, u.ownBlock = some a → a ≠ g := fun a ha e => by
    rcases hat with e2 | ⟨q, e2, hq⟩
    · rw [e2] at ha; exact h.off j hj g a rfl ha e.symm
    · rw [e2] at ha; injection ha with ha; have := h.size; omega
  have hsz : (w1.setCell ⟨g, j, none⟩ u).heap.size = w1.heap.size := by simp [World.setCell]
  have hgr : w1.grownBy (w1.setCell ⟨g, j, none⟩ u) (some g) := by
    refine ⟨rfl, rfl, rfl, by rw [hsz]; exact Nat.le_refl _, fun i hi hne => ?_⟩
    unfold World.setCell
    simp only [Array.getElem?_modify]
    rw [if_neg (fun e => hne (by rw [e]))]
  have hout1 : VRow w1 B (.slice (some ⟨g, 0, none⟩) n c) vs := h.out.apart hg (fun k hk e => h.off j hj k k hk e.symm rfl)
  have hn : n = vs.length := by
    obtain ⟨A, c2, e⟩ := hout1.shape
    injection e
  have hout2 : VRow (w1.setCell ⟨g, j, none⟩ u) B (.slice (some ⟨g, 0, none⟩) n c) (vs.set j u) := (hout1.set j u).1
  have hold : ∀ i, i < xss.length → i ≠ j → IRow (w1.setCell ⟨g, j, none⟩ u) B (vs.getD i NilS) (xss.getD i []) := fun i hi hne =>
    World.ownsRow.kept (World.ownsRow.kept (h.row i hi) hg (by
      cases e : (vs.getD i NilS).ownBlock with
      | none => exact .inl rfl
      | some k => exact .inr (fun e2 => h.apart i j hi hj hne k k e e2.symm rfl))) hgr (by
      cases e : (vs.getD i NilS).ownBlock with
      | none => exact .inl rfl
      | some k => exact .inr (fun e2 => h.off i hi g k rfl e (by injection e2 with e2; exact e2.symm)))
  have hnew : IRow (w1.setCell ⟨g, j, none⟩ u) B u ys := World.ownsRow.kept hu hgr (by
    cases e : u.ownBlock with
    | none => exact .inl rfl
    | some k => exact .inr (fun e2 => hng k e (by injection e2)))
  have gv : ∀ i, (vs.set j u).getD i NilS = if i = j then u else vs.getD i NilS := fun i => getD_set vs j i u NilS (by omega)
  have gx : ∀ i, (xss.set j ys).getD i [] = if i = j then ys else xss.getD i [] := fun i => getD_set xss j i ys [] hj
  refine ⟨by rw [List.length_set, List.length_set]; exact hl, hout2, fun k hk => ?_, fun i hi => ?_, fun i hi k hk => ?_, fun i i' hi hi' hne a b ha hb => ?_, fun i hi a b ha hb => ?_, Nat.le_refl _⟩
  · rw [hsz]; have := h.outM k hk; have := h.size; omega
  · rw [List.length_set] at hi
    rw [gv, gx]
    by_cases e : i = j
    · rw [if_pos e, if_pos e]; exact hnew
    · rw [if_neg e, if_neg e]; exact hold i hi e
  · rw [List.length_set] at hi
    rw [gv] at hk
    by_cases e : i = j
    · rw [if_pos e] at hk; exact (hnew.blk k hk).2
    · rw [if_neg e] at hk; exact ((hold i hi e).blk k hk).2
  · rw [List.length_set] at hi hi'
    rw [gv] at ha hb
    by_cases e1 : i = j <;> by_cases e2 : i' = j
    · omega
    · rw [if_pos e1] at ha; rw [if_neg e2] at hb
      rcases hat with e3 | ⟨q, e3, hq⟩
      · rw [e3] at ha; exact h.apart j i' hj hi' (fun e => e2 e.symm) a b ha hb
      · rw [e3] at ha; injection ha with ha; have := h.rowM i' hi' b hb; have := h.size; omega
    · rw [if_neg e1] at ha; rw [if_pos e2] at hb
      rcases hat with e3 | ⟨q, e3, hq⟩
      · rw [e3] at hb; exact h.apart i j hi hj e1 a b ha hb
      · rw [e3] at hb; injection hb with hb; have := h.rowM i hi a ha; have := h.size; omega
    · rw [if_neg e1] at ha; rw [if_neg e2] at hb
      exact h.apart i i' hi hi' hne a b ha hb
  · rw [List.length_set] at hi
    rw [gv] at hb
    injection ha with ha
    by_cases e : i = j
    · rw [if_pos e] at hb; exact fun x => hng b hb (by rw [← x, ← ha])
    · rw [if_neg e] at hb; rw [← ha]; exact h.off i hi g b rfl hb
theorem TRow.after {w w1 : World} {B M g n c : Nat} {vs : List Value} {xss : List (List Int)} (h : TRow w B M (.slice (some ⟨g, 0, none⟩) n c) vs xss) {j : Nat} (hj : j < xss.length)
    (hg : w.grownBy w1 (vs.getD j NilS).ownBlock) : w1.cell? ⟨g, j, none⟩ = some (vs.getD j NilS) ∧ w1.frozen? ⟨g, j, none⟩ = false := by
  have hout1 : VRow w1 B (.slice (some ⟨g, 0, none⟩) n c) vs := h.out.apart hg (fun k hk e => h.off j hj k k hk e.symm rfl)
  exact ⟨hout1.cell (by rw [h.len]; exact hj), hout1.free j⟩
/-- four rows, all nil, just made -/
theorem TRow.made {w : World} {B g : Nat} (h : w.ownsRow B 33 1 (.slice (some ⟨g, 0, none⟩) 4 4) 4 (List.replicate 4 (.slice none 0 0))) :
    TRow w B w.heap.size (.slice (some ⟨g, 0, none⟩) 4 4) (List.replicate 4 NilS) (List.replicate 4 []) := by
  have gv : ∀ j, (List.replicate 4 NilS).getD j NilS = NilS := fun j => by
    rw [List.getD_eq_getElem?_getD, List.getElem?_replicate]; split <;> rfl
  have gx : ∀ j, (List.replicate 4 ([] : List Int)).getD j [] = [] := fun j => by
    rw [List.getD_eq_getElem?_getD, List.getElem?_replicate]; split <;> rfl
  have hv : VRow w B (.slice (some ⟨g, 0, none⟩) 4 4) (List.replicate 4 NilS) := h
  refine ⟨rfl, hv, fun k hk => (hv.blk k hk).2, fun j hj => ?_, fun j hj k hk => ?_, fun i j hi hj hne a b ha hb => ?_, fun j hj a b ha hb => ?_, Nat.le_refl _⟩
  · rw [gv, gx]; exact IRow.nil _ _
  · rw [gv] at hk; cases hk
  · rw [gv] at ha; cases ha
  · rw [gv] at hb; cases hb
theorem TRow.grownBelow {w w1 : World} {B M g n c : Nat} {vs : List Value} {xss : List (List Int)} (h : TRow w B M (.slice (some ⟨g, 0, none⟩) n c) vs xss) {j : Nat} (hj : j < xss.length) {w0 : World} (hb : Below B w0 w)
    (hg : w.grownBy w1 (vs.getD j NilS).ownBlock) (u : Value) : Below B w0 (w1.setCell ⟨g, j, none⟩ u) :=
  (hb.grown hg (Nat.le_trans (h.outB g rfl).1 (Nat.le_of_lt (Nat.lt_of_lt_of_le (h.outB g rfl).2 h.size))) (fun q hq => (h.rowB hj q hq).1)).setCell (p := ⟨g, j, none⟩) (h.outB g rfl).1 _
end Go.Proofs.YtmfcknlpbliehaaDoor
