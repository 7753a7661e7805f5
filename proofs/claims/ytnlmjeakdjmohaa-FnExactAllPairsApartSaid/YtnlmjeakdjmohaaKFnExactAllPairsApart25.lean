/- Pack 25 of what FnExactAllPairsApart needs: EqP, ShrI. -/
import Derived.Test.YtnlmjeakdjmohaaKFnExactAllPairsApart24
import Derived.ChangeKeysEq
/- Two places are compared. -/
namespace Go.Proofs.Ytnlmjeakdjmohaa
open Go.RowKit
set_option linter.unusedVariables false
theorem eq_place (w : World) (x y p q : Int) : (Op.equalIn 10000 103 (.agg #[.int .i64 x, .int .i64 y]) (.agg #[.int .i64 p, .int .i64 q])).run Try.prog w = .ok (x == p && y == q) w := by
  obtain ⟨i0, hi0, _⟩ := info_parts intInfo
  have hc : Try.prog.cellsOf 3 = 1 := by kernel_rfl
  have hp : Try.prog.plainKey 3 = true := by kernel_rfl
  have hu : Try.prog.underlying 103 = some (.array 2 3) := by kernel_rfl
  have p0 : (part 3 #[Value.int .i64 x, .int .i64 y] 0).run Try.prog w = .ok (.int .i64 x) w := run_part_plain w hp rfl
  have p1 : (part 3 #[Value.int .i64 x, .int .i64 y] 1).run Try.prog w = .ok (.int .i64 y) w := run_part_plain w hp rfl
  have p2 : (part 3 #[Value.int .i64 p, .int .i64 q] 0).run Try.prog w = .ok (.int .i64 p) w := run_part_plain w hp rfl
  have p3 : (part 3 #[Value.int .i64 p, .int .i64 q] 1).run Try.prog w = .ok (.int .i64 q) w := run_part_plain w hp rfl
  have Q : ∀ a b : Int, (Op.equalIn 9999 3 (.int .i64 a) (.int .i64 b)).run Try.prog w = .ok (a == b) w := fun a b => run_equalIn_int w 9998 3 .i64 .i64 a b Try.underlying3
  obtain ⟨c1, h1⟩ : ∃ c, c = (x == p) := ⟨_, rfl⟩
  obtain ⟨c2, h2⟩ : ∃ c, c = (y == q) := ⟨_, rfl⟩
  have q1 := Q x p
  have q2 := Q y q
  rw [← h1] at q1 ⊢
  rw [← h2] at q2 ⊢
  rw [run_equalIn_array w 9999 _ _ hu hi0, hc, show List.range 2 = [0, 1] from rfl]
  simp only [Op.eqItems, Sem.run_bind, Nat.zero_mul, Nat.one_mul, p0, p2, Result.andThen_ok, q1]
  cases c1
  · cases c2 <;> rfl
  · simp only [Bool.not_true, Bool.false_eq_true, if_false, Sem.run_bind, p1, p3, Result.andThen_ok, q2]
    cases c2 <;> rfl
end Go.Proofs.Ytnlmjeakdjmohaa

/- slices.Index, slices.Contains over places; firstShared. -/
namespace Go.Proofs.Ytnlmjeakdjmohaa
open Go.RowKit
set_option linter.unusedVariables false
/-- a slice of places that is only read: X, Y, X, Y, .. -/
structure RPls (w : World) (v : Value) (n : Nat) (xs : List Int) : Prop where
  shape : ∃ A c, v = .slice A n c
  cells : 0 < n → ∃ g o c, v = .slice (some ⟨g, o, none⟩) n c ∧ g < w.heap.size ∧ ∀ j, j < n * 2 → w.cell? ⟨g, o + j, none⟩ = some (.int .i64 (xs.getD j 0))
theorem RPls.below {w w' : World} {v : Value} {n : Nat} {xs : List Int} (h : RPls w v n xs) (hb : Below w.heap.size w w') : RPls w' v n xs :=
  ⟨h.shape, fun hx => by
    obtain ⟨g, o, c, hv, hg, hc⟩ := h.cells hx
    exact ⟨g, o, c, hv, Nat.lt_of_lt_of_le hg hb.size, fun j hj => (hb.cell (p := ⟨g, o + j, none⟩) hg).trans (hc j hj)⟩⟩
theorem RPls.of_row {w : World} {B n : Nat} {v : Value} {xs : List Int} (h : PRow w B v n xs) : RPls w v n xs :=
  ⟨h.shape, fun hx => by
    obtain ⟨g, c, hv, _, hg⟩ := h.form hx
    subst hv
    exact ⟨g, 0, c, rfl, hg, fun j hj => by rw [Nat.zero_add]; exact h.cell hj⟩⟩
theorem RPls.nil (w : World) (c : Nat) : RPls w (.slice none 0 c) 0 [] := ⟨⟨_, _, rfl⟩, fun h => absurd h (by omega)⟩
theorem RPls.at {w : World} {n : Nat} {xs : List Int} {g o c : Nat} (h : RPls w (.slice (some ⟨g, o, none⟩) n c) n xs) {j : Nat} (hj : j < n) : w.cell? ⟨g, o + j * 2, none⟩ = some (.int .i64 (xs.getD (j * 2) 0)) ∧ w.cell? ⟨g, o + j * 2 + 1, none⟩ = some (.int .i64 (xs.getD (j * 2 + 1) 0)) := by
  obtain ⟨g', o', c', e, _, hc⟩ := h.cells (by omega)
  injection e with e _ e3
  injection e with e
  injection e with e1 e2
  subst e1 e2
  exact ⟨hc (j * 2) (by omega), hc (j * 2 + 1) (by omega)⟩
/-- the first index of a cell, or -1 -/
def pxF (xs : List Int) (x y : Int) : Nat → Nat → Option Nat
  | 0, _ => none
  | f + 1, j => if x = xs.getD (j * 2) 0 ∧ y = xs.getD (j * 2 + 1) 0 then some j else pxF xs x y f (j + 1)
def pxZ : Option Nat → Int
  | none => -1
  | some j => (j : Int)
theorem pxF_mtJ (xs ys : List Int) (i : Nat) : ∀ f j, pxF ys (xs.getD (i * 2) 0) (xs.getD (i * 2 + 1) 0) f j = mtJ xs ys i f j
  | 0, _ => rfl
  | f + 1, j => by rw [pxF, mtJ, pxF_mtJ xs ys i f (j + 1)]
theorem pxF_yes {xs : List Int} {x y : Int} {f j : Nat} (h : x = xs.getD (j * 2) 0 ∧ y = xs.getD (j * 2 + 1) 0) : pxF xs x y (f + 1) j = some j := if_pos h
theorem pxF_no {xs : List Int} {x y : Int} {f j : Nat} (h : ¬ (x = xs.getD (j * 2) 0 ∧ y = xs.getD (j * 2 + 1) 0)) : pxF xs x y (f + 1) j = pxF xs x y f (j + 1) := if_neg h
theorem pxF_isSome (xs : List Int) (x y : Int) : ∀ f j, (pxF xs x y f j).isSome = true ↔ ∃ k, j ≤ k ∧ k < j + f ∧ xs.getD (k * 2) 0 = x ∧ xs.getD (k * 2 + 1) 0 = y
  | 0, j => by simp [pxF]; omega
  | f + 1, j => by
    by_cases h : x = xs.getD (j * 2) 0 ∧ y = xs.getD (j * 2 + 1) 0
    · rw [pxF_yes h]
      exact ⟨fun _ => ⟨j, Nat.le_refl _, by omega, h.1.symm, h.2.symm⟩, fun _ => rfl⟩
    · rw [pxF_no h, pxF_isSome xs x y f (j + 1)]
      constructor
      · rintro ⟨k, h1, h2, h3⟩
        exact ⟨k, by omega, by omega, h3⟩
      · rintro ⟨k, h1, h2, h3, h4⟩
        by_cases e : k = j
        · subst e
          exact absurd ⟨h3.symm, h4.symm⟩ h
        · exact ⟨k, by omega, by omega, h3, h4⟩
theorem pxF_has (xs : List Int) (x y : Int) (n : Nat) : (pxF xs x y n 0).isSome = hasF n xs x y := by
  rw [Bool.eq_iff_iff, pxF_isSome, hasF_iff]
  constructor
  · rintro ⟨k, _, h2, h3⟩
    exact ⟨k, by omega, h3⟩
  · rintro ⟨k, h2, h3⟩
    exact ⟨k, by omega, by omega, h3⟩
theorem pxF_lt {xs : List Int} {x y : Int} : ∀ {f j k : Nat}, pxF xs x y f j = some k → j ≤ k ∧ k < j + f
  | 0, _, _, h => by cases h
  | f + 1, j, k, h => by
    rw [pxF] at h
    split at h
    · injection h with h
      omega
    · have := pxF_lt h
      omega
/-- the place sought in its box, and the places -/
structure IxB (w : World) (x y : Int) (v : Value) (n : Nat) (xs : List Int) (X : World) : Prop where
  c0 : X.cell? ⟨w.heap.size, 0, none⟩ = some (.int .i64 x)
  c1 : X.cell? ⟨w.heap.size, 1, none⟩ = some (.int .i64 y)
  r : RPls X v n xs
  lt : w.heap.size < X.heap.size
  below : Below w.heap.size w X
theorem IxB.kept {w X X' : World} {x y : Int} {v : Value} {n : Nat} {xs : List Int} (h : IxB w x y v n xs X) (hb : Below X.heap.size X X') : IxB w x y v n xs X' :=
  ⟨(hb.cell (p := ⟨w.heap.size, 0, none⟩) h.lt).trans h.c0, (hb.cell (p := ⟨w.heap.size, 1, none⟩) h.lt).trans h.c1, h.r.below hb, Nat.lt_of_lt_of_le h.lt hb.size, h.below.trans (hb.mono h.below.size)⟩
theorem IxB.start {w : World} {x y : Int} {v : Value} {n : Nat} {xs : List Int} (h : RPls w v n xs) : IxB w x y v n xs (w.alloc (.cells #[.int .i64 x, .int .i64 y] 103)) := by
  have hb : Below w.heap.size w (w.alloc (.cells #[.int .i64 x, .int .i64 y] 103)) := (Below.refl _ _).alloc (Nat.le_refl _) _
  exact ⟨by simp [go_sem], by simp [go_sem], h.below hb, by simp, hb⟩
set_option maxRecDepth 100000 in
set_option maxHeartbeats 1000000 in
theorem indexP_any (v : Value) (n : Nat) (xs : List Int) (x y : Int) (w : World) (h : RPls w v n xs) (hl : n ≤ 1048576) :
    Calls Try.prog 157 #[v, celV x y] w (Ret w (.int .i64 (pxZ (pxF xs x y n 0)))) := by
  have HI := Lib.hid (IxB.start (x := x) (y := y) h)
  have HE := eq_place
  obtain ⟨A, c, rfl⟩ := h.shape
  obtain ⟨R, hR⟩ : ∃ R, pxF xs x y n 0 = R := ⟨_, rfl⟩
  rw [hR]
  have HR := Lib.hid hR
  clear hR h
  go_enter Try.func157, Try.ntmps157
  go_wp2_with fail
  go_loopw [8] (fun i wr => ∃ k : Nat, k ≤ n ∧ i = .int .i64 (k : Int) ∧ pxF xs x y (n - k) k = R ∧ IxB w x y (.slice A n c) n xs wr) (fun i _ => n - (intOf i).toNat)
  case atStart => exact ⟨0, Nat.zero_le _, rfl, HR.out, HI.out⟩
  case round =>
    obtain ⟨k, hk, rfl, hf, hib⟩ := hrel
    clear HI HR
    by_cases hlt : k < n
    · obtain ⟨g, o, cc, hv, -, -⟩ := hib.r.cells (by omega)
      injection hv with hA _ hcc
      subst hA
      subst hcc
      have i1 : (k : Int) < (n : Int) := by omega
      have i2 : 0 ≤ (k : Int) := by omega
      have hr := hib.r.at hlt
      have e0 := hr.1
      have e1 := hr.2
      have b0 := hib.c0
      have b1 := hib.c1
      have HIB := Lib.hid hib
      have HS : Hid (∀ f, n - k = f + 1 → True) := Lib.hid fun _ _ => trivial
      have hf1 := hf
      rw [show n - k = (n - (k + 1)) + 1 by omega] at hf1
      have HF := Lib.hid hf1
      obtain ⟨p, hp⟩ : ∃ p, xs.getD (k * 2) 0 = p := ⟨_, rfl⟩
      obtain ⟨q, hq⟩ : ∃ q, xs.getD (k * 2 + 1) 0 = q := ⟨_, rfl⟩
      rw [hp] at e0
      rw [hq] at e1
      have HP := Lib.hid hp
      have HQ := Lib.hid hq
      clear hf hf1 hib hr hp hq HS
      by_cases hx : x = p
      · by_cases hy : y = q
        · have HRR : Hid (R = some k) := Lib.hid (by rw [← HF.out, pxF_yes ⟨by rw [HP.out]; exact hx, by rw [HQ.out]; exact hy⟩])
          have t0 : (x == p) = true := by rw [hx]; simp
          have t1 : (y == q) = true := by rw [hy]; simp
          clear HF HP HQ hx hy
          go_wp2_with fail
          go_quiet (fail)
          go_wp2_with fail
          go_ret
          exact ⟨by rw [HRR.out]; rfl, HIB.out.below.trans (below_drewN (Below.refl _ _) _)⟩
        · have HRR : Hid (pxF xs x y (n - (k + 1)) (k + 1) = R) := Lib.hid (by rw [← HF.out, pxF_no (by rw [HP.out, HQ.out]; exact fun h => hy h.2)])
          have t0 : (x == p) = true := by rw [hx]; simp
          have t1 : (y == q) = false := beq_eq_false_iff_ne.2 hy
          clear HF HP HQ hx hy
          go_wp2_with fail
          go_quiet (fail)
          go_wp2_with fail
          go_roundw
          case rel => exact ⟨k + 1, by omega, by go_num, HRR.out, HIB.out.kept (below_drewN (Below.refl _ _) _)⟩
          case measure => first | (simp [intOf]; done) | (simp [intOf]; omega)
      · have HRR : Hid (pxF xs x y (n - (k + 1)) (k + 1) = R) := Lib.hid (by rw [← HF.out, pxF_no (by rw [HP.out, HQ.out]; exact fun h => hx h.1)])
        have t0 : (x == p) = false := beq_eq_false_iff_ne.2 hx
        clear HF HP HQ hx
        go_wp2_with fail
        go_quiet (fail)
        go_wp2_with fail
        go_roundw
        case rel => exact ⟨k + 1, by omega, by go_num, HRR.out, HIB.out.kept (below_drewN (Below.refl _ _) _)⟩
        case measure => first | (simp [intOf]; done) | (simp [intOf]; omega)
    · obtain rfl : k = n := by omega
      have HRR : Hid (R = none) := Lib.hid (by rw [← hf, Nat.sub_self]; rfl)
      have HIB := Lib.hid hib
      clear hf hib
      go_wp2_with fail
      go_ret
      exact ⟨by rw [HRR.out]; rfl, HIB.out.below⟩
theorem pxZ_bd {xs : List Int} {x y : Int} {n : Nat} (hn : n ≤ 1048576) : -1 ≤ pxZ (pxF xs x y n 0) ∧ pxZ (pxF xs x y n 0) ≤ 1048576 := by
  cases h : pxF xs x y n 0 with
  | none => simp [pxZ]
  | some k =>
    have := pxF_lt h
    simp only [pxZ]
    omega
theorem pxZ_some (R : Option Nat) : decide (0 ≤ pxZ R) = R.isSome := by
  cases R with
  | none => rfl
  | some k => simp [pxZ]
set_option maxRecDepth 100000 in
theorem containsP_any (v : Value) (n : Nat) (xs : List Int) (x y : Int) (w : World) (h : RPls w v n xs) (hl : n ≤ 1048576) :
    Calls Try.prog 146 #[v, celV x y] w (Ret w (.bool (hasF n xs x y))) := by
  have hb : Below w.heap.size w (w.alloc (.cells #[.int .i64 x, .int .i64 y] 103)) := (Below.refl _ _).alloc (Nat.le_refl _) _
  have HI : Hid (Calls Try.prog 157 #[v, celV x y] (w.alloc (.cells #[.int .i64 x, .int .i64 y] 103)) (Ret (w.alloc (.cells #[.int .i64 x, .int .i64 y] 103)) (.int .i64 (pxZ (pxF xs x y n 0))))) := Lib.hid (indexP_any v n xs x y _ (h.below hb) hl)
  rw [← pxF_has]
  rw [← pxZ_some]
  obtain ⟨A, c, rfl⟩ := h.shape
  have h1 := pxZ_bd (xs := xs) (x := x) (y := y) hl
  generalize pxZ (pxF xs x y n 0) = z at *
  have h2 := h1.1
  have h3 := h1.2
  clear h1 h
  have q : (decide (z ≥ 0)) = decide (0 ≤ z) := rfl
  go_enter Try.func146, Try.ntmps146
  go_wp2_with (go_at_call 157; refine HI.out.mono ?_; rintro e w' ⟨rfl, hb1⟩)
  go_ret
  exact ⟨by simp, hb.trans (hb1.mono hb.size)⟩
/-- the places, and what has been gone through -/
structure FsB (w : World) (v1 v2 : Value) (n m : Nat) (xs ys : List Int) (X : World) : Prop where
  a : RPls X v1 n xs
  b : RPls X v2 m ys
  below : Below w.heap.size w X
theorem FsB.kept {w X X' : World} {v1 v2 : Value} {n m : Nat} {xs ys : List Int} (h : FsB w v1 v2 n m xs ys X) (hb : Below X.heap.size X X') : FsB w v1 v2 n m xs ys X' := ⟨h.a.below hb, h.b.below hb, h.below.trans (hb.mono h.below.size)⟩
end Go.Proofs.Ytnlmjeakdjmohaa
