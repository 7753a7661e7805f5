/- Pack 16 of what FnFansAndCubes needs: TOwn, MxS, ShMath. -/
import Derived.Test.YtmfcknlpbliehabKFnFansAndCubes15
import Derived.Deep.RegionHeld3
/- A slice of slices of ints that the call owns, each of them in a block of its own; the laws' eq, mark, held on such. -/
namespace Go.Proofs.Ytmfcknlpbliehab
open Go.RowKit
set_option linter.unusedVariables false
abbrev NilS : Value := .slice none 0 0
structure TRow (w : World) (B M : Nat) (v : Value) (vs : List Value) (xss : List (List Int)) : Prop where
  len : vs.length = xss.length
  out : VRow w B v vs
  outM : ∀ k, v.ownBlock = some k → k < M
  row : ∀ j, j < xss.length → IRow w B (vs.getD j NilS) (xss.getD j [])
  rowM : ∀ j, j < xss.length → ∀ k, (vs.getD j NilS).ownBlock = some k → k < M
  apart : ∀ i j, i < xss.length → j < xss.length → i ≠ j → ∀ a b, (vs.getD i NilS).ownBlock = some a → (vs.getD j NilS).ownBlock = some b → a ≠ b
  off : ∀ j, j < xss.length → ∀ a b, v.ownBlock = some a → (vs.getD j NilS).ownBlock = some b → a ≠ b
  size : M ≤ w.heap.size
namespace TRow
variable {w w' : World} {B M : Nat} {v : Value} {vs : List Value} {xss : List (List Int)}
theorem nil (hM : M ≤ w.heap.size) : TRow w B M (.slice none 0 0) [] [] :=
  ⟨rfl, VRow.nil _ _, (fun k h => by cases h), (fun j h => absurd h (by simp)), (fun j h => absurd h (by simp)), (fun i j h => absurd h (by simp)), (fun j h => absurd h (by simp)), hM⟩
theorem outB (h : TRow w B M v vs xss) : ∀ k, v.ownBlock = some k → B ≤ k ∧ k < M := fun k hk => ⟨(h.out.blk k hk).1, h.outM k hk⟩
theorem rowB (h : TRow w B M v vs xss) {j : Nat} (hj : j < xss.length) : ∀ k, (vs.getD j NilS).ownBlock = some k → B ≤ k ∧ k < M := fun k hk => ⟨((h.row j hj).blk k hk).1, h.rowM j hj k hk⟩
/-- something else turned: a block that is none of its own -/
theorem keep {r : Option Nat} (h : TRow w B M v vs xss) (hg : w.grownBy w' r) (hr : ∀ k, r = some k → k < B ∨ M ≤ k) : TRow w' B M v vs xss where
  len := h.len
  out := h.out.apart hg (fun k hk e => by have := hr k e.symm; have := h.outB k hk; omega)
  outM := h.outM
  row j hj := World.ownsRow.kept (h.row j hj) hg (by
    cases e : (vs.getD j NilS).ownBlock with
    | none => exact .inl rfl
    | some k => exact .inr (fun e2 => by have := hr k e2.symm; have := h.rowB hj k e; omega))
  rowM := h.rowM
  apart := h.apart
  off := h.off
  size := Nat.le_trans h.size hg.size
theorem below (h : TRow w B M v vs xss) (hb : Below w.heap.size w w') : TRow w' B M v vs xss :=
  h.keep (r := none) ⟨hb.os, hb.tape, hb.output, hb.size, fun k hk _ => hb.block k hk⟩ (fun k e => by cases e)
theorem drewN (h : TRow w B M v vs xss) (n : Nat) : TRow (w.drewN n) B M v vs xss := ⟨h.len, h.out, h.outM, h.row, h.rowM, h.apart, h.off, h.size⟩
theorem mono (h : TRow w B M v vs xss) {B' M' : Nat} (hB : B' ≤ B) (hM : M ≤ M') (hs : M' ≤ w.heap.size) : TRow w B' M' v vs xss :=
  ⟨h.len, h.out.mono hB, fun k hk => Nat.lt_of_lt_of_le (h.outM k hk) hM, fun j hj => (h.row j hj).mono hB, fun j hj k hk => Nat.lt_of_lt_of_le (h.rowM j hj k hk) hM, h.apart, h.off, hs⟩
theorem getD_app {α : Type} (a : List α) (u d : α) (j : Nat) : (a ++ [u]).getD j d = if j < a.length then a.getD j d else if j = a.length then u else d := by
  rw [List.getD_eq_getElem?_getD]
  by_cases h1 : j < a.length
  · rw [if_pos h1, List.getElem?_append_left h1, ← List.getD_eq_getElem?_getD]
  · rw [if_neg h1]
    by_cases h2 : j = a.length
    · subst h2; rw [if_pos rfl]; simp
    · rw [if_neg h2, List.getElem?_eq_none (by simp; omega)]; rfl
/-- one more slice appended -/
theorem push {v' u : Value} {t : List Int} (h : TRow w B M v vs xss) (hu : IRow w M u t) (hBM : B ≤ M) (hr : VRow w' B v' (vs ++ [u])) (hg : w.grownBy w' v.ownBlock) (hat : v'.ownBlock = v.ownBlock ∨ ∃ g, v'.ownBlock = some g ∧ w.heap.size ≤ g) :
    TRow w' B w'.heap.size v' (vs ++ [u]) (xss ++ [t]) := by
  have k1 : ∀ j, j < xss.length → IRow w' B (vs.getD j NilS) (xss.getD j []) := fun j hj => World.ownsRow.kept (h.row j hj) hg (by
    cases e : (vs.getD j NilS).ownBlock with
    | none => exact .inl rfl
    | some k => exact .inr (fun e2 => h.off j hj k k e2.symm e rfl))
  have k3 : IRow w' M u t := World.ownsRow.kept hu hg (by
    cases e : u.ownBlock with
    | none => exact .inl rfl
    | some k => exact .inr (fun e2 => by have := h.outM k e2.symm; have := (hu.blk k e).1; omega))
  have k2 : IRow w' B u t := k3.mono hBM
  have hl := h.len
  have hs := hg.size
  have o1 : ∀ a, v'.ownBlock = some a → (∀ j, j < xss.length → ∀ b, (vs.getD j NilS).ownBlock = some b → a ≠ b) ∧ (∀ b, u.ownBlock = some b → a ≠ b) := fun a ha => by
    rcases hat with e | ⟨g, e, hge⟩
    · rw [e] at ha
      exact ⟨fun j hj b hb => h.off j hj a b ha hb, fun b hb => by have := h.outM a ha; have := (hu.blk b hb).1; omega⟩
    · rw [e] at ha
      injection ha with ha
      exact ⟨fun j hj b hb => by have := h.rowM j hj b hb; have := h.size; omega, fun b hb => by have := (hu.blk b hb).2; omega⟩
  have gv : ∀ j, (vs ++ [u]).getD j NilS = if j < xss.length then vs.getD j NilS else if j = xss.length then u else NilS := fun j => by rw [getD_app, hl]
  have gx : ∀ j, (xss ++ [t]).getD j [] = if j < xss.length then xss.getD j [] else if j = xss.length then t else [] := fun j => getD_app _ _ _ _
  refine ⟨by simp [hl], hr, fun k hk => (hr.blk k hk).2, fun j hj => ?_, fun j hj k hk => ?_, fun i j hi hj hne a b ha hb => ?_, fun j hj a b ha hb => ?_, Nat.le_refl _⟩
  · rw [gv, gx]
    by_cases c : j < xss.length
    · rw [if_pos c, if_pos c]; exact k1 j c
    · have : j = xss.length := by simp at hj; omega
      rw [if_neg c, if_neg c, if_pos this, if_pos this]; exact k2
  · rw [gv] at hk
    by_cases c : j < xss.length
    · rw [if_pos c] at hk; exact ((k1 j c).blk k hk).2
    · have : j = xss.length := by simp at hj; omega
      rw [if_neg c, if_pos this] at hk; exact (k2.blk k hk).2
  · rw [gv] at ha hb
    by_cases c1 : i < xss.length <;> by_cases c2 : j < xss.length
    · rw [if_pos c1] at ha; rw [if_pos c2] at hb; exact h.apart i j c1 c2 hne a b ha hb
    · have : j = xss.length := by simp at hj; omega
      rw [if_pos c1] at ha; rw [if_neg c2, if_pos this] at hb
      have := h.rowM i c1 a ha
      have := (hu.blk b hb).1
      omega
    · have : i = xss.length := by simp at hi; omega
      rw [if_pos c2] at hb; rw [if_neg c1, if_pos this] at ha
      have := h.rowM j c2 b hb
      have := (hu.blk a ha).1
      omega
    · simp at hi hj; omega
  · rw [gv] at hb
    by_cases c : j < xss.length
    · rw [if_pos c] at hb; exact (o1 a ha).1 j c b hb
    · have : j = xss.length := by simp at hj; omega
      rw [if_neg c, if_pos this] at hb; exact (o1 a ha).2 b hb
/-- one of its rows turned -/
theorem turn {j : Nat} {ys : List Int} (h : TRow w B M v vs xss) (hj : j < xss.length) (hg : w.grownBy w' (vs.getD j NilS).ownBlock) (hy : IRow w' B (vs.getD j NilS) ys) : TRow w' B M v vs (xss.set j ys) := by
  refine ⟨by rw [List.length_set]; exact h.len, h.out.apart hg (fun k hk e => h.off j hj k k hk e.symm rfl), h.outM, fun i hi => ?_, fun i hi => h.rowM i (by simpa using hi), fun i i' hi hi' => h.apart i i' (by simpa using hi) (by simpa using hi'), fun i hi => h.off i (by simpa using hi), Nat.le_trans h.size hg.size⟩
  rw [List.length_set] at hi
  by_cases e : i = j
  · subst e
    have : (xss.set i ys).getD i [] = ys := by rw [List.getD_eq_getElem?_getD, List.getElem?_set, if_pos rfl, if_pos hi]; rfl
    rw [this]
    exact hy
  · have : (xss.set j ys).getD i [] = xss.getD i [] := by rw [List.getD_eq_getElem?_getD, List.getElem?_set, if_neg (fun e2 => e e2.symm), ← List.getD_eq_getElem?_getD]
    rw [this]
    exact World.ownsRow.kept (h.row i hi) hg (by
      cases e3 : (vs.getD i NilS).ownBlock with
      | none => exact .inl rfl
      | some k => exact .inr (fun e2 => h.apart i j hi hj e k k e3 e2.symm rfl))
theorem rows (h : TRow w B M v vs xss) : LRows w v xss := by
  obtain ⟨A, c, rfl⟩ := h.out.shape
  rw [h.len]
  refine ⟨⟨_, _, rfl⟩, fun hx => ?_⟩
  obtain ⟨g, c', hv, _, hg, _⟩ := h.out.form h.len hx
  rw [h.len] at hv
  refine ⟨g, 0, c', hv, hg, fun j hj => ⟨vs.getD j NilS, ?_, RInts.of_row (h.row j hj)⟩⟩
  have ho := h.out
  rw [h.len, hv] at ho
  rw [Nat.zero_add]
  exact ho.cell (by rw [h.len]; exact hj)
end TRow
theorem TRow.form {w : World} {B M : Nat} {v : Value} {vs : List Value} {xss : List (List Int)} {n : Nat} (h : TRow w B M v vs xss) (hn : xss.length = n) (hx : 0 < n) : ∃ g c, v = .slice (some ⟨g, 0, none⟩) n c ∧ B ≤ g ∧ g < M ∧ ∀ j, j < n → w.cell? ⟨g, j, none⟩ = some (vs.getD j NilS) := by
  obtain ⟨g, c, hv, h1, h2, _⟩ := h.out.form (h.len.trans hn) hx
  subst hv
  exact ⟨g, c, rfl, h1, h.outM g rfl, fun j hj => h.out.cell (by rw [h.len, hn]; exact hj)⟩
def TabsRet (w : World) (ok : Bool) (xss : List (List Int)) (e : Ending) (w' : World) : Prop :=
  ∃ v vs, e = .returned (.tuple #[v, .bool ok]) ∧ TRow w' w.heap.size w'.heap.size v vs xss ∧ Below w.heap.size w w'
def TabsNew (w : World) (xss : List (List Int)) (e : Ending) (w' : World) : Prop :=
  ∃ v vs, e = .returned v ∧ TRow w' w.heap.size w'.heap.size v vs xss ∧ Below w.heap.size w w'
end Go.Proofs.Ytmfcknlpbliehab

/- The model's ncMatrix, WaysMatrix. -/
namespace Go.Proofs.Ytmfcknlpbliehab
open Go.RowKit
set_option linter.unusedVariables false
theorem hat_allocM {v v' : Value} {w : World} {o : Obj} (h : v'.ownBlock = v.ownBlock ∨ ∃ g, v'.ownBlock = some g ∧ (w.alloc o).heap.size ≤ g) : v'.ownBlock = v.ownBlock ∨ ∃ g, v'.ownBlock = some g ∧ w.heap.size ≤ g := by
  rcases h with h | ⟨g, h1, h2⟩
  · exact .inl h
  · exact .inr ⟨g, h1, by simp at h2; omega⟩
def wmV (xs ys : List Int) (i j : Nat) : Int := ncV (xs.getD (i * 2) 0) (xs.getD (i * 2 + 1) 0) (ys.getD (j * 2) 0) (ys.getD (j * 2 + 1) 0)
def wmR (xs ys : List Int) (i m : Nat) : List Int := (List.range m).map (wmV xs ys i)
def wmT (xs ys : List Int) (m n : Nat) : List (List Int) := (List.range n).map fun i => wmR xs ys i m
theorem wmR_succ (xs ys : List Int) (i m : Nat) : wmR xs ys i (m + 1) = wmR xs ys i m ++ [wmV xs ys i m] := by simp [wmR, List.range_succ]
theorem wmT_succ (xs ys : List Int) (m n : Nat) : wmT xs ys m (n + 1) = wmT xs ys m n ++ [wmR xs ys n m] := by simp [wmT, List.range_succ]
theorem wmR_length (xs ys : List Int) (i m : Nat) : (wmR xs ys i m).length = m := by simp [wmR]
theorem wmT_length (xs ys : List Int) (m n : Nat) : (wmT xs ys m n).length = n := by simp [wmT]
/-- while a row is made -/
structure MxI (w0 : World) (h : Nat) (x0 x1 : Int) (l : Value) (L : List Int) (X : World) : Prop where
  row : IRow X (h + 1) l L
  c : QB h x0 x1 X
  below : Below h w0 X
theorem MxI.kept {w0 X X' : World} {h : Nat} {x0 x1 : Int} {l : Value} {L : List Int} (hh : h = w0.heap.size) (H : MxI w0 h x0 x1 l L X) (hb : Below X.heap.size X X') : MxI w0 h x0 x1 l L X' :=
  ⟨H.row.below hb, H.c.below hb, H.below.trans (hb.mono (by have := H.c.lt; omega))⟩
theorem MxI.push {w0 X X' : World} {h : Nat} {x0 x1 u : Int} {l l' : Value} {L : List Int} (H : MxI w0 h x0 x1 l L X) (hr : IRow X' (h + 1) l' (L ++ [u])) (hg : X.grownBy X' l.ownBlock) : MxI w0 h x0 x1 l' (L ++ [u]) X' := by
  have hlt := H.c.lt
  have hb : Below (h + 1) X X' := (Below.refl _ _).grown hg (by omega) (fun q hq => (H.row.blk q hq).1)
  exact ⟨hr, ⟨(hb.cell (p := ⟨h, 0, none⟩) (Nat.lt_succ_self h)).trans H.c.c0, (hb.cell (p := ⟨h, 1, none⟩) (Nat.lt_succ_self h)).trans H.c.c1, Nat.lt_of_lt_of_le hlt hg.size⟩, H.below.trans (hb.mono (Nat.le_succ h))⟩
end Go.Proofs.Ytmfcknlpbliehab

/- Shifted moments: sums with binomial numbers. -/
namespace Go.Proofs.Ytmfcknlpbliehab
open Go.RowKit
set_option linter.unusedVariables false
/-- the sum for n, its first t parts, from the last moment down -/
def shP (k : Int) (ms : List Int) (n : Nat) : Nat → Int
  | 0 => 0
  | t + 1 => shP k ms n t + ((chs n (n - t) : Nat) : Int) * k ^ t * ms.getD (n - t) 0
theorem shP_succ (k : Int) (ms : List Int) (n t : Nat) : shP k ms n (t + 1) = shP k ms n t + ((chs n (n - t) : Nat) : Int) * k ^ t * ms.getD (n - t) 0 := rfl
/-- the moments if k is added to all weights -/
def shL (ms : List Int) (k : Int) : List Int := fr (fun n => shP k ms n (n + 1)) ms.length
theorem abs_mul {x y : Int} {A B : Nat} (hx : -(A : Int) ≤ x ∧ x ≤ A) (hy : -(B : Int) ≤ y ∧ y ≤ B) : -((A * B : Nat) : Int) ≤ x * y ∧ x * y ≤ ((A * B : Nat) : Int) := by
  have h1 : x.natAbs ≤ A := by omega
  have h2 : y.natAbs ≤ B := by omega
  have h3 : (x * y).natAbs ≤ A * B := by rw [Int.natAbs_mul]; exact Nat.mul_le_mul h1 h2
  omega
theorem pow_abs {k : Int} {A : Nat} (hk : -(A : Int) ≤ k ∧ k ≤ A) : ∀ t : Nat, -((A ^ t : Nat) : Int) ≤ k ^ t ∧ k ^ t ≤ ((A ^ t : Nat) : Int)
  | 0 => by simp
  | t + 1 => by
    rw [Int.pow_succ, Nat.pow_succ]
    exact abs_mul (pow_abs hk t) hk
theorem pow9 {k : Int} (hk : -9 ≤ k ∧ k ≤ 9) {t : Nat} (ht : t ≤ 8) : -43046721 ≤ k ^ t ∧ k ^ t ≤ 43046721 := by
  have h1 := pow_abs (k := k) (A := 9) (by omega) t
  have h2 : (9 : Nat) ^ t ≤ 9 ^ 8 := Nat.pow_le_pow_right (by omega) ht
  have h3 : (9 : Nat) ^ 8 = 43046721 := by decide
  omega
theorem pow97 {k : Int} (hk : -9 ≤ k ∧ k ≤ 9) {t : Nat} (ht : t ≤ 7) : -4782969 ≤ k ^ t ∧ k ^ t ≤ 4782969 := by
  have h1 := pow_abs (k := k) (A := 9) (by omega) t
  have h2 : (9 : Nat) ^ t ≤ 9 ^ 7 := Nat.pow_le_pow_right (by omega) ht
  have h3 : (9 : Nat) ^ 7 = 4782969 := by decide
  omega
theorem chs7 {n i : Nat} (hn : n ≤ 7) : 0 ≤ ((chs n i : Nat) : Int) ∧ ((chs n i : Nat) : Int) ≤ 128 := by
  have h1 := chs_le n i
  have h2 : (2 : Nat) ^ n ≤ 2 ^ 7 := Nat.pow_le_pow_right (by omega) hn
  have h3 : (2 : Nat) ^ 7 = 128 := by decide
  omega
theorem sh_c {n i t : Nat} {k : Int} (hn : n ≤ 7) (hk : -9 ≤ k ∧ k ≤ 9) (ht : t ≤ 7) : -612220032 ≤ ((chs n i : Nat) : Int) * k ^ t ∧ ((chs n i : Nat) : Int) * k ^ t ≤ 612220032 := by
  have h1 := chs7 (n := n) (i := i) hn
  have h2 := pow97 hk ht
  have h3 := abs_mul (A := 128) (B := 4782969) (x := ((chs n i : Nat) : Int)) (y := k ^ t) (by omega) (by omega)
  omega
theorem sh_t {n i t : Nat} {k m : Int} (hn : n ≤ 7) (hk : -9 ≤ k ∧ k ≤ 9) (ht : t ≤ 7) (hm : -1000000000 ≤ m ∧ m ≤ 1000000000) :
    -612220032000000000 ≤ ((chs n i : Nat) : Int) * k ^ t * m ∧ ((chs n i : Nat) : Int) * k ^ t * m ≤ 612220032000000000 := by
  have h1 := sh_c (i := i) hn hk ht
  have h3 := abs_mul (A := 612220032) (B := 1000000000) (x := ((chs n i : Nat) : Int) * k ^ t) (y := m) (by omega) (by omega)
  omega
theorem sh_p {k : Int} {ms : List Int} {n : Nat} (hn : n ≤ 7) (hk : -9 ≤ k ∧ k ≤ 9) (hm : ∀ i, i ≤ n → -1000000000 ≤ ms.getD i 0 ∧ ms.getD i 0 ≤ 1000000000) : ∀ t, t ≤ n + 1 → -(612220032000000000 * (t : Int)) ≤ shP k ms n t ∧ shP k ms n t ≤ 612220032000000000 * (t : Int)
  | 0, _ => by simp [shP]
  | t + 1, ht => by
    have h1 := sh_p hn hk hm t (by omega)
    have h2 := sh_t (n := n) (i := n - t) hn hk (show t ≤ 7 by omega) (hm (n - t) (by omega))
    rw [shP_succ]
    generalize ((chs n (n - t) : Nat) : Int) * k ^ t * ms.getD (n - t) 0 = x at *
    omega
def momB (xs : List Int) : Bool := inBd 1 8 (xs.length : Nat) && allB xs (-1000000000) 1000000000
theorem momB_of {xs : List Int} (h : momB xs = true) : (1 ≤ xs.length ∧ xs.length ≤ 8) ∧ ∀ k, k < xs.length → -1000000000 ≤ xs.getD k 0 ∧ xs.getD k 0 ≤ 1000000000 := by
  unfold momB allB inBd at h
  simp only [Bool.and_eq_true, decide_eq_true_eq, List.all_eq_true] at h
  refine ⟨by omega, fun k hk => ?_⟩
  rw [List.getD_eq_getElem?_getD, List.getElem?_eq_getElem hk]
  exact h.2 _ (List.getElem_mem hk)
def shOk (ms : List Int) (k : Int) : Bool := (momB ms && inBd (-9) 9 k) && momB (shL ms k)
def shV (ms : List Int) (k : Int) : List Int := if shOk ms k = true then shL ms k else []
end Go.Proofs.Ytmfcknlpbliehab
