/- Pack 29 of what FnPathsReflected needs: OneI, HoldI. -/
import Derived.Test.YtachijliaedndaaKFnPathsReflected28
import Derived.ChangeKeysEq
/- Slices of one number and of two, just made. -/
namespace Go.Proofs.Ytachijliaedndaa
open Go.RowKit
set_option linter.unusedVariables false
theorem one_ints (w : World) (x : Int) : RInts (w.alloc (.cells #[.int .i64 x] 3)) (.slice (some ⟨w.heap.size, 0, none⟩) 1 1) [x] :=
  RInts.of_row (B := w.heap.size) (IRow.of_own (World.ownsRow_lit w #[.int .i64 x] 1 (Nat.le_refl _) (by simp [maxLen]) rfl) (by simp) (by simp))
theorem two_ints (w : World) (x y : Int) : RInts (w.alloc (.cells #[.int .i64 x, .int .i64 y] 3)) (.slice (some ⟨w.heap.size, 0, none⟩) 2 2) [x, y] :=
  RInts.of_row (B := w.heap.size) (IRow.of_own (World.ownsRow_lit w #[.int .i64 x, .int .i64 y] 2 (Nat.le_refl _) (by simp [maxLen]) rfl) (by simp) (by simp))
end Go.Proofs.Ytachijliaedndaa

/- The program's spans of heights: holds; isHeight, areWalls. -/
namespace Go.Proofs.Ytachijliaedndaa
open Go.RowKit
set_option linter.unusedVariables false
theorem eq_span (w : World) (m M lo hi : Int) : (Op.equalIn 10000 132 (.agg #[.int .i64 m, .int .i64 M]) (.agg #[.int .i64 lo, .int .i64 hi])).run Try.prog w = .ok (m == lo && M == hi) w := by
  obtain ⟨i0, hi0, _⟩ := info_parts intInfo
  have hc : Try.prog.cellsOf 3 = 1 := by kernel_rfl
  have hp : Try.prog.plainKey 3 = true := by kernel_rfl
  have hu : Try.prog.underlying 132 = some (.array 2 3) := by kernel_rfl
  have p0 : (part 3 #[Value.int .i64 m, .int .i64 M] 0).run Try.prog w = .ok (.int .i64 m) w := run_part_plain w hp rfl
  have p1 : (part 3 #[Value.int .i64 m, .int .i64 M] 1).run Try.prog w = .ok (.int .i64 M) w := run_part_plain w hp rfl
  have p2 : (part 3 #[Value.int .i64 lo, .int .i64 hi] 0).run Try.prog w = .ok (.int .i64 lo) w := run_part_plain w hp rfl
  have p3 : (part 3 #[Value.int .i64 lo, .int .i64 hi] 1).run Try.prog w = .ok (.int .i64 hi) w := run_part_plain w hp rfl
  have q : ∀ a b : Int, (Op.equalIn 9999 3 (.int .i64 a) (.int .i64 b)).run Try.prog w = .ok (a == b) w := fun a b => run_equalIn_int w 9998 3 .i64 .i64 a b Try.underlying3
  obtain ⟨c1, h1⟩ : ∃ c, c = (m == lo) := ⟨_, rfl⟩
  obtain ⟨c2, h2⟩ : ∃ c, c = (M == hi) := ⟨_, rfl⟩
  have q1 := q m lo
  have q2 := q M hi
  rw [← h1] at q1 ⊢
  rw [← h2] at q2 ⊢
  rw [run_equalIn_array w 9999 _ _ hu hi0, hc, show List.range 2 = [0, 1] from rfl]
  simp only [Op.eqItems, Sem.run_bind, Nat.zero_mul, Nat.one_mul, p0, p2, Result.andThen_ok, q1]
  cases c1
  · cases c2 <;> rfl
  · simp only [Bool.not_true, Bool.false_eq_true, if_false, Sem.run_bind, p1, p3, Result.andThen_ok, q2]
    cases c2 <;> rfl
/-- all lie between -/
def holB (lo hi : Int) (xs : List Int) : Bool := xs.all fun x => inB x lo hi
theorem holB_mm (lo hi : Int) (xs : List Int) (h : 1 ≤ xs.length) : holB lo hi xs = (decide (min lo (mnT xs (xs.length - 1)) = lo) && decide (max hi (mxT xs (xs.length - 1)) = hi)) := by
  have h1 := mnT_iff xs lo (xs.length - 1)
  have h2 := mxT_iff xs hi (xs.length - 1)
  rw [Bool.eq_iff_iff, Bool.and_eq_true, decide_eq_true_iff, decide_eq_true_iff]
  have e1 : min lo (mnT xs (xs.length - 1)) = lo ↔ lo ≤ mnT xs (xs.length - 1) := by omega
  have e2 : max hi (mxT xs (xs.length - 1)) = hi ↔ mxT xs (xs.length - 1) ≤ hi := by omega
  rw [e1, e2, h1, h2]
  unfold holB
  rw [List.all_eq_true]
  constructor
  · intro hx
    refine ⟨fun j hj => ?_, fun j hj => ?_⟩
    all_goals
      have := inB_of' (hx (xs.getD j 0) (by rw [List.getD_eq_getElem?_getD, List.getElem?_eq_getElem (by omega)]; exact List.getElem_mem _))
      omega
  · rintro ⟨g1, g2⟩ x hx
    obtain ⟨j, hj, rfl⟩ := List.mem_iff_getElem.1 hx
    have a := g1 j (by omega)
    have b := g2 j (by omega)
    rw [List.getD_eq_getElem?_getD, List.getElem?_eq_getElem hj] at a b
    unfold inB
    rw [Bool.and_eq_true, decide_eq_true_iff, decide_eq_true_iff]
    exact ⟨a, b⟩
set_option maxHeartbeats 800000 in
theorem holds_any (lo hi : Int) (v : Value) (xs : List Int) (w : World) (h : RInts w v xs) (h1 : 1 ≤ xs.length) (hl : xs.length ≤ 1048576) :
    Calls Try.prog 207 #[.agg #[.int .i64 lo, .int .i64 hi], v] w (Ret w (.bool (holB lo hi xs))) := by
  obtain ⟨A0, cap, rfl⟩ := h.shape
  have HA : Hid (∀ W, Below w.heap.size w W → Calls Try.prog 252 #[.agg #[.int .i64 lo, .int .i64 hi], .slice A0 xs.length cap] W (Ret W (.agg #[.int .i64 (min lo (mnT xs (xs.length - 1))), .int .i64 (max hi (mxT xs (xs.length - 1)))]))) := Lib.hid fun W hb => with_any lo hi _ xs W (h.below hb) h1 hl
  have hb2 : Below w.heap.size w ((w.alloc (.cells #[.int .i64 lo, .int .i64 hi] 132)).drew) := ((Below.refl _ _).alloc (Nat.le_refl _) _).drew
  have HM := Lib.hid (holB_mm lo hi xs h1)
  clear h
  generalize holB lo hi xs = b at *
  generalize min lo (mnT xs (xs.length - 1)) = m at *
  generalize max hi (mxT xs (xs.length - 1)) = M at *
  have HE := eq_span
  go_enter Try.func207, Try.ntmps207
  go_wp2
  go_region_law (go_simp; go_at_call 252; refine (HA.out _ hb2).mono ?_; rintro e w' ⟨rfl, hb3⟩; have hc3 := hb3.cell (p := ⟨w.heap.size, 0, none⟩) (by simp); have hc4 := hb3.cell (p := ⟨w.heap.size, 1, none⟩) (by simp); simp [go_sem] at hc3 hc4)
  all_goals (try go_wp2_with fail)
  all_goals go_ret
  all_goals exact ⟨by rw [HM.out]; rfl, hb2.trans (hb3.mono hb2.size)⟩
/-- a row of one or two numbers that is built for the call -/
theorem holds_one (lo hi x : Int) (w : World) : Calls Try.prog 207 #[.agg #[.int .i64 lo, .int .i64 hi], .slice (some ⟨w.heap.size, 0, none⟩) 1 1] (w.alloc (.cells #[.int .i64 x] 3)) fun e w' => e = .returned (.bool (inB x lo hi)) ∧ Below w.heap.size w w' :=
  (holds_any lo hi _ [x] _ (one_ints w x) (by simp) (by simp)).mono fun e w' ⟨h1, h2⟩ => ⟨by rw [h1]; simp [holB], ((Below.refl _ _).alloc (Nat.le_refl _) _).trans (h2.mono (by simp))⟩
theorem holds_two (lo hi x y : Int) (w : World) : Calls Try.prog 207 #[.agg #[.int .i64 lo, .int .i64 hi], .slice (some ⟨w.heap.size, 0, none⟩) 2 2] (w.alloc (.cells #[.int .i64 x, .int .i64 y] 3)) fun e w' => e = .returned (.bool (inB x lo hi && inB y lo hi)) ∧ Below w.heap.size w w' :=
  (holds_any lo hi _ [x, y] _ (two_ints w x y) (by simp) (by simp)).mono fun e w' ⟨h1, h2⟩ => ⟨by rw [h1]; simp [holB], ((Below.refl _ _).alloc (Nat.le_refl _) _).trans (h2.mono (by simp))⟩
theorem with_one (lo hi x : Int) (w : World) : Calls Try.prog 252 #[.agg #[.int .i64 lo, .int .i64 hi], .slice (some ⟨w.heap.size, 0, none⟩) 1 1] (w.alloc (.cells #[.int .i64 x] 3)) fun e w' => e = .returned (.agg #[.int .i64 (min lo x), .int .i64 (max hi x)]) ∧ Below w.heap.size w w' :=
  (with_any lo hi _ [x] _ (one_ints w x) (by simp) (by simp)).mono fun e w' ⟨h1, h2⟩ => ⟨by rw [h1]; rfl, ((Below.refl _ _).alloc (Nat.le_refl _) _).trans (h2.mono (by simp))⟩
theorem isHeight_ret (h : Int) (w : World) : Calls Try.prog 206 #[.int .i64 h] w (Ret w (.bool (inB h (-40) 40))) := by
  have HO : Hid (∀ w : World, Calls Try.prog 207 #[.agg #[.int .i64 (-40), .int .i64 40], .slice (some ⟨w.heap.size, 0, none⟩) 1 1] (w.alloc (.cells #[.int .i64 h] 3)) fun e w' => e = .returned (.bool (inB h (-40) 40)) ∧ Below w.heap.size w w') := Lib.hid (holds_one _ _ _)
  generalize inB h (-40) 40 = b at *
  go_enter Try.func206, Try.ntmps206
  go_wp2_with (go_at_call 207; refine (HO.out _).mono ?_; rintro e w1 ⟨rfl, hb1⟩)
  go_ret
  exact ⟨rfl, hb1⟩
theorem areWalls_ret (l h : Int) (w : World) : Calls Try.prog 160 #[.int .i64 l, .int .i64 h] w (Ret w (.bool (inB l (-40) 0 && inB h 0 40))) := by
  have HL : Hid (∀ w : World, Calls Try.prog 207 #[.agg #[.int .i64 (-40), .int .i64 0], .slice (some ⟨w.heap.size, 0, none⟩) 1 1] (w.alloc (.cells #[.int .i64 l] 3)) fun e w' => e = .returned (.bool (inB l (-40) 0)) ∧ Below w.heap.size w w') := Lib.hid (holds_one _ _ _)
  have HH : Hid (∀ w : World, Calls Try.prog 207 #[.agg #[.int .i64 0, .int .i64 40], .slice (some ⟨w.heap.size, 0, none⟩) 1 1] (w.alloc (.cells #[.int .i64 h] 3)) fun e w' => e = .returned (.bool (inB h 0 40)) ∧ Below w.heap.size w w') := Lib.hid (holds_one _ _ _)
  have hacc := Below.refl w.heap.size w
  rcases Bool.eq_false_or_eq_true (inB l (-40) 0) with hl | hl
  all_goals
    rw [hl] at HL ⊢
    generalize inB h 0 40 = b at *
    have tok1 : True := trivial
    go_enter Try.func160, Try.ntmps160
    go_wp2_with (first | (have _t := tok1; go_at_call 207; clear _t tok1; refine (HL.out _).mono ?_; rintro e w1 ⟨rfl, hb1⟩; replace hacc := hacc.trans (hb1.mono hacc.size); clear hb1) | (go_at_call 207; refine (HH.out _).mono ?_; rintro e w1 ⟨rfl, hb1⟩; replace hacc := hacc.trans (hb1.mono hacc.size); clear hb1))
    go_ret
    exact ⟨by simp, hacc⟩
end Go.Proofs.Ytachijliaedndaa
