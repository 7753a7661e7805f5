/- The model's ncCount, CountWays. -/
import Derived.Test.YtahnknbggacndaaNcS
import Derived.Test.YtahnknbggacndaaChoose
import Derived.Test.YtahnknbggacndaaCounts
import Derived.Deep.QuietTactic
import Derived.BigQuiet
namespace Go.Proofs.Ytahnknbggacndaa
open Go.RowKit
set_option linter.unusedVariables false
def ncV (x y u v : Int) : Int := if u - x < 0 ∨ v - y < 0 then 0 else chZ ((u - x) + (v - y)) (u - x)
/-- two cells in their boxes -/
structure C2 (w : World) (x y u v : Int) (X : World) : Prop where
  a0 : X.cell? ⟨w.heap.size, 0, none⟩ = some (.int .i64 x)
  a1 : X.cell? ⟨w.heap.size, 1, none⟩ = some (.int .i64 y)
  b0 : X.cell? ⟨w.heap.size + 1, 0, none⟩ = some (.int .i64 u)
  b1 : X.cell? ⟨w.heap.size + 1, 1, none⟩ = some (.int .i64 v)
  lt : w.heap.size + 1 < X.heap.size
  below : Below w.heap.size w X
theorem C2.kept {w X X' : World} {x y u v : Int} (h : C2 w x y u v X) (hb : Below X.heap.size X X') : C2 w x y u v X' :=
  ⟨(hb.cell (p := ⟨w.heap.size, 0, none⟩) (Nat.lt_of_succ_lt h.lt)).trans h.a0, (hb.cell (p := ⟨w.heap.size, 1, none⟩) (Nat.lt_of_succ_lt h.lt)).trans h.a1, (hb.cell (p := ⟨w.heap.size + 1, 0, none⟩) h.lt).trans h.b0, (hb.cell (p := ⟨w.heap.size + 1, 1, none⟩) h.lt).trans h.b1, Nat.lt_of_lt_of_le h.lt hb.size, h.below.trans (hb.mono h.below.size)⟩
theorem C2.start (w : World) (x y u v : Int) : C2 w x y u v ((w.alloc (.cells #[.int .i64 x, .int .i64 y] 25)).alloc (.cells #[.int .i64 u, .int .i64 v] 25)) :=
  ⟨by simp [go_sem], by simp [go_sem], by simp [go_sem], by simp [go_sem], by simp, ((Below.refl _ _).alloc (Nat.le_refl _) _).alloc (by simp) _⟩
set_option maxRecDepth 100000 in
set_option maxHeartbeats 1000000 in
theorem ncCount_any (x y u v : Int) (w : World) (hx : -100 ≤ x ∧ x ≤ 100) (hy : -100 ≤ y ∧ y ≤ 100) (hu : -100 ≤ u ∧ u ≤ 100) (hv : -100 ≤ v ∧ v ≤ 100) (hs : (u - x) + (v - y) ≤ 60) : Calls Try.prog 82 #[celV x y, celV u v] w (Ret w (.int .i64 (ncV x y u v))) := by
  have HX := Lib.hid (C2.start w x y u v)
  have c0 := HX.out.a0
  have c1 := HX.out.a1
  have c2 := HX.out.b0
  have c3 := HX.out.b1
  have k1 := IntWalk.i64_in (u - x) (by omega)
  have k2 := IntWalk.i64_in (v - y) (by omega)
  unfold ncV
  by_cases h1 : u - x < 0
  · rw [if_pos (.inl h1)]
    go_enter Try.func82, Try.ntmps82
    go_wp2_with fail
    go_quiet (fail)
    go_wp2_with fail
    go_ret
    exact ⟨rfl, below_drewN HX.out.below _⟩
  · by_cases h2 : v - y < 0
    · rw [if_pos (.inr h2)]
      go_enter Try.func82, Try.ntmps82
      go_wp2_with fail
      go_quiet (fail)
      go_wp2_with fail
      go_ret
      exact ⟨rfl, below_drewN HX.out.below _⟩
    · rw [if_neg (by omega)]
      have HC : Hid (∀ w, Calls Try.prog 113 #[.int .i64 ((u - x) + (v - y)), .int .i64 (u - x)] w (Ret w (.int .i64 (chZ ((u - x) + (v - y)) (u - x))))) := Lib.hid fun w => choose_ret _ _ w hs
      generalize chZ ((u - x) + (v - y)) (u - x) = z at *
      go_enter Try.func82, Try.ntmps82
      go_wp2_with fail
      go_quiet (fail)
      go_wp2_with (go_at_call 113; refine (HC.out _).mono ?_; rintro e w1 ⟨rfl, hb1⟩; have HX1 := Lib.hid ((HX.out.kept (below_drewN (Below.refl _ _) _)).kept hb1))
      go_ret
      exact ⟨rfl, HX1.out.below⟩
def cyOk (x y u v : Int) : Bool := cellB x y && cellB u v
def cyV (x y u v : Int) : Int := if cyOk x y u v = true then ncV x y u v else 0
set_option maxRecDepth 100000 in
set_option maxHeartbeats 1000000 in
theorem specCountWays_ret (x y u v : Int) (w : World) : Calls Try.prog 35 #[celV x y, celV u v] w (Ret w (.tuple #[.int .i64 (cyV x y u v), .bool (cyOk x y u v)])) := by
  have HX := Lib.hid (C2.start w x y u v)
  have c0 := HX.out.a0
  have c1 := HX.out.a1
  have H1 : Hid (∀ w, Calls Try.prog 77 #[celV x y] w (Ret w (.bool (cellB x y)))) := Lib.hid fun w => ncCell_any x y w
  have H2 : Hid (∀ w, Calls Try.prog 77 #[celV u v] w (Ret w (.bool (cellB u v)))) := Lib.hid fun w => ncCell_any u v w
  rcases Bool.eq_false_or_eq_true (cellB x y) with a1 | a1
  · rcases Bool.eq_false_or_eq_true (cellB u v) with a2 | a2
    · have hok : cyOk x y u v = true := by unfold cyOk; rw [a1, a2]; rfl
      have e1 : cyV x y u v = ncV x y u v := by unfold cyV; rw [if_pos hok]
      have h1 := (cellB_iff _ _).1 a1
      have h2 := (cellB_iff _ _).1 a2
      have HN : Hid (∀ w, Calls Try.prog 82 #[celV x y, celV u v] w (Ret w (.int .i64 (ncV x y u v)))) := Lib.hid fun w => ncCount_any x y u v w (by omega) (by omega) (by omega) (by omega) (by omega)
      rw [e1, hok]
      rw [a1] at H1
      rw [a2] at H2
      generalize ncV x y u v = z at *
      clear hok e1 a1 a2 h1 h2
      go_enter Try.func35, Try.ntmps35
      go_wp2_with fail
      refine (H1.out _).mono ?_
      rintro e w1 ⟨rfl, hb1⟩
      have hx := HX.out.kept hb1
      have r2 := hx.b0
      have r3 := hx.b1
      have HX1 := Lib.hid hx
      clear hx hb1
      go_wp2_with fail
      refine (H2.out _).mono ?_
      rintro e w2 ⟨rfl, hb2⟩
      have hx := HX1.out.kept hb2
      clear r2 r3
      have r0 := hx.a0
      have r1 := hx.a1
      have r2 := hx.b0
      have r3 := hx.b1
      have HX2 := Lib.hid hx
      clear hx hb2
      go_wp2_with fail
      refine (HN.out _).mono ?_
      rintro e w3 ⟨rfl, hb3⟩
      have HX3 := Lib.hid (HX2.out.kept hb3)
      clear hb3
      go_wp2_with fail
      go_ret2
      exact ⟨rfl, HX3.out.below⟩
    · have hok : cyOk x y u v = false := by unfold cyOk; rw [a1, a2]; rfl
      have e1 : cyV x y u v = 0 := by simp [cyV, hok]
      rw [e1, hok]
      rw [a1] at H1
      rw [a2] at H2
      clear hok e1 a1 a2
      go_enter Try.func35, Try.ntmps35
      go_wp2_with fail
      refine (H1.out _).mono ?_
      rintro e w1 ⟨rfl, hb1⟩
      have hx := HX.out.kept hb1
      have r2 := hx.b0
      have r3 := hx.b1
      have HX1 := Lib.hid hx
      clear hx hb1
      go_wp2_with fail
      refine (H2.out _).mono ?_
      rintro e w2 ⟨rfl, hb2⟩
      have HX2 := Lib.hid (HX1.out.kept hb2)
      clear hb2
      go_wp2_with fail
      go_ret2
      exact ⟨rfl, HX2.out.below⟩
  · have hok : cyOk x y u v = false := by unfold cyOk; rw [a1]; rfl
    have e1 : cyV x y u v = 0 := by simp [cyV, hok]
    rw [e1, hok]
    rw [a1] at H1
    clear hok e1 a1 H2
    go_enter Try.func35, Try.ntmps35
    go_wp2_with fail
    refine (H1.out _).mono ?_
    rintro e w1 ⟨rfl, hb1⟩
    have HX1 := Lib.hid (HX.out.kept hb1)
    clear hb1
    go_wp2_with fail
    go_ret2
    exact ⟨rfl, HX1.out.below⟩
end Go.Proofs.Ytahnknbggacndaa
