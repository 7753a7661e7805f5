/- The program's guess, its sum of two guesses, cmp.Compare. -/
import Derived.Test.YtfimcadnlhohlaaFlOrd
import Derived.Test.YtfimcadnlhohlaaCmpS
import Derived.WalkLawsBesides
import Derived.Laws.FloatArith
namespace Go.Proofs.Ytfimcadnlhohlaa
open Go.RowKit
set_option linter.unusedVariables false
theorem floatOf_nat (n : Nat) : floatOfInt .f32 (n : Int) = Ieee.single.nearest false n 0 := by
  show Ieee.single.write (.number (decide ((n : Int) < 0)) ((n : Int)).natAbs 0) = _
  rw [write_num, decide_eq_false (by omega), Int.natAbs_natCast]
set_option maxHeartbeats 400000 in
theorem guess_any (n d f : Nat) (w : World) (h : Ieee.single.div (Ieee.single.nearest false n 0) (Ieee.single.nearest false d 0) = some f) :
    Calls Try.prog 89 #[.agg #[.int .i64 (n : Int), .int .i64 (d : Int)]] w (Ret w (.float .f32 f)) := by
  have hop : ∀ t w, (binOp .quo t (.float .f32 (floatOfInt .f32 (n : Int))) (.float .f32 (floatOfInt .f32 (d : Int)))).run Try.prog w = .ok (.float .f32 f) w := fun t w => run_float_arith w .quo t .f32 _ _ f (by rw [floatOf_nat, floatOf_nat]; exact h)
  have hbx := RBox.start w (n : Int) (d : Int)
  have c0 := hbx.1
  have c1 := hbx.2.1
  have hb0 := hbx.2.2.2
  clear hbx h
  go_enter Try.func89, Try.ntmps89
  go_wp2_with (simp only [hop])
  all_goals go_ret
  all_goals exact ⟨rfl, hb0⟩
set_option maxHeartbeats 800000 in
theorem sumF_any (f s c1 c2 : Nat) (X : World) (h1 : Ieee.single.add 0 f = some c1) (h2 : Ieee.single.add c1 s = some c2) :
    Calls Try.prog 90 #[.slice (some ⟨X.heap.size, 0, none⟩) 2 2] (X.alloc (.cells #[.float .f32 f, .float .f32 s] 76)) fun e w' => e = .returned (.float .f32 c2) ∧ X.alloc (.cells #[.float .f32 f, .float .f32 s] 76) = w' := by
  have hop1 : ∀ t w, (binOp .add t (.float .f32 0) (.float .f32 f)).run Try.prog w = .ok (.float .f32 c1) w := fun t w => run_float_arith w .add t .f32 _ _ c1 h1
  have hop2 : ∀ t w, (binOp .add t (.float .f32 c1) (.float .f32 s)).run Try.prog w = .ok (.float .f32 c2) w := fun t w => run_float_arith w .add t .f32 _ _ c2 h2
  have e0 : (X.alloc (.cells #[.float .f32 f, .float .f32 s] 76)).cell? ⟨X.heap.size, 0, none⟩ = some (.float .f32 f) := by simp [go_sem]
  have e1 : (X.alloc (.cells #[.float .f32 f, .float .f32 s] 76)).cell? ⟨X.heap.size, 1, none⟩ = some (.float .f32 s) := by simp [go_sem]
  generalize X.alloc (.cells #[.float .f32 f, .float .f32 s] 76) = W at *
  clear h1 h2
  go_enter Try.func90, Try.ntmps90
  go_wp2
  go_loop [3, 8] (fun o i => (i = .int .i64 0 ∧ o = .float .f32 0) ∨ (i = .int .i64 1 ∧ o = .float .f32 c1) ∨ (i = .int .i64 2 ∧ o = .float .f32 c2)) (fun _ i => 2 - (intOf i).toNat)
  case atStart => exact .inl ⟨rfl, rfl⟩
  case round =>
    rcases hrel with ⟨rfl, rfl⟩ | ⟨rfl, rfl⟩ | ⟨rfl, rfl⟩
    · go_wp2_with (simp only [hop1])
      go_round
      case rel => exact .inr (.inl ⟨rfl, rfl⟩)
      case measure => simp [intOf]
    · go_wp2_with (simp only [hop2])
      go_round
      case rel => exact .inr (.inr ⟨rfl, rfl⟩)
      case measure => simp [intOf]
    · go_wp2
      go_ret
      exact ⟨rfl, rfl⟩
theorem isNaNF_any (x : Nat) (w : World) (h : Ieee.single.order x x = some .eq) : Calls Try.prog 95 #[.float .f32 x] w fun e w' => e = .returned (.bool false) ∧ w = w' := by
  have h' : FloatKind.f32.format.order x x = some .eq := h
  go_enter Try.func95, Try.ntmps95
  go_wp2
  go_ret
  exact ⟨by simp, rfl⟩
theorem compareF_gt (x y : Nat) (w : World) (hx : Ieee.single.order x x = some .eq) (hy : Ieee.single.order y y = some .eq) (h : Ieee.single.order x y = some .gt) : Calls Try.prog 91 #[.float .f32 x, .float .f32 y] w fun e w' => e = .returned (.int .i64 1) ∧ w = w' := by
  have N1 : Hid (∀ w, Calls Try.prog 95 #[.float .f32 x] w fun e w' => e = .returned (.bool false) ∧ w = w') := Lib.hid fun w => isNaNF_any x w hx
  have N2 : Hid (∀ w, Calls Try.prog 95 #[.float .f32 y] w fun e w' => e = .returned (.bool false) ∧ w = w') := Lib.hid fun w => isNaNF_any y w hy
  have h1 : (FloatKind.f32.format.order x y == some .lt) = false := by rw [show FloatKind.f32.format.order x y = some .gt from h]; rfl
  have h2 : (FloatKind.f32.format.order x y == some .gt) = true := by rw [show FloatKind.f32.format.order x y = some .gt from h]; rfl
  clear hx hy h
  go_enter Try.func91, Try.ntmps91
  go_wp2_with (first | (go_at_call 95; first | (with_reducible refine (N1.out _).mono ?_; rintro e w' ⟨rfl, rfl⟩) | (with_reducible refine (N2.out _).mono ?_; rintro e w' ⟨rfl, rfl⟩)))
  go_ret
  exact ⟨rfl, rfl⟩
theorem compareF_lt (x y : Nat) (w : World) (hx : Ieee.single.order x x = some .eq) (hy : Ieee.single.order y y = some .eq) (h : Ieee.single.order x y = some .lt) : Calls Try.prog 91 #[.float .f32 x, .float .f32 y] w fun e w' => e = .returned (.int .i64 (-1)) ∧ w = w' := by
  have N1 : Hid (∀ w, Calls Try.prog 95 #[.float .f32 x] w fun e w' => e = .returned (.bool false) ∧ w = w') := Lib.hid fun w => isNaNF_any x w hx
  have N2 : Hid (∀ w, Calls Try.prog 95 #[.float .f32 y] w fun e w' => e = .returned (.bool false) ∧ w = w') := Lib.hid fun w => isNaNF_any y w hy
  have h1 : (FloatKind.f32.format.order x y == some .lt) = true := by rw [show FloatKind.f32.format.order x y = some .lt from h]; rfl
  clear hx hy h
  go_enter Try.func91, Try.ntmps91
  go_wp2_with (first | (go_at_call 95; first | (with_reducible refine (N1.out _).mono ?_; rintro e w' ⟨rfl, rfl⟩) | (with_reducible refine (N2.out _).mono ?_; rintro e w' ⟨rfl, rfl⟩)))
  go_ret
  exact ⟨rfl, rfl⟩
theorem isNaNI_any (x : Int) (w : World) : Calls Try.prog 92 #[.int .i64 x] w fun e w' => e = .returned (.bool false) ∧ w = w' := by
  go_enter Try.func92, Try.ntmps92
  go_wp2
  go_ret
  exact ⟨by simp, rfl⟩
theorem compareInt_any (x y : Int) (w : World) : Calls Try.prog 82 #[.int .i64 x, .int .i64 y] w fun e w' => e = .returned (.int .i64 (sgZ (x - y))) ∧ w = w' := by
  have N : Hid (∀ x w, Calls Try.prog 92 #[.int .i64 x] w fun e w' => e = .returned (.bool false) ∧ w = w') := Lib.hid isNaNI_any
  go_enter Try.func82, Try.ntmps82
  go_wp2_with (go_at_call 92; refine (N.out _ _).mono ?_; rintro e w' ⟨rfl, rfl⟩)
  all_goals go_ret
  all_goals exact ⟨ret_int (by unfold sgZ; (repeat' split) <;> omega), rfl⟩
theorem run_maxF (ts : Array TypeId) (t : TypeId) (p q mx : Nat) (w : World) (h : MaxOf p q mx) : (Builtin.max_ ts t #[.float .f32 p, .float .f32 q]).run Try.prog w = .ok (.float .f32 mx) w := by
  have e : FloatKind.f32.format = Ieee.single := rfl
  unfold Builtin.max_
  rcases h with ⟨h, rfl⟩ | ⟨h, rfl⟩ | ⟨h, rfl, rfl, rfl⟩
  · simp [Builtin.max2, e, h]
  · simp [Builtin.max2, e, h]
  · simp [Builtin.max2, e, h]
end Go.Proofs.Ytfimcadnlhohlaa
