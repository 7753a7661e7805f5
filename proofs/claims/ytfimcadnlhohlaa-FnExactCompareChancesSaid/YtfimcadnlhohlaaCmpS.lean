/- The model's CompareChances. -/
import Derived.Test.YtfimcadnlhohlaaRzS
namespace Go.Proofs.Ytfimcadnlhohlaa
open Go.RowKit
set_option linter.unusedVariables false
def ruC (n d : Int) : Bool := (inBd 0 1000000000 n && inBd 1 1000000000 d) && (numZ n d == n && denZ n d == d)
theorem ruC_of {n d : Int} (h : ruC n d = true) : (0 ≤ n ∧ n ≤ 1000000000) ∧ 1 ≤ d ∧ d ≤ 1000000000 := by
  unfold ruC inBd at h
  simp only [Bool.and_eq_true, decide_eq_true_eq] at h
  omega
set_option maxRecDepth 100000 in
set_option maxHeartbeats 2000000 in
theorem ruCompared_any (n d : Int) (w : World) : Calls Try.prog 78 #[.agg #[.int .i64 n, .int .i64 d]] w (Ret w (.bool (ruC n d))) := by
  have H1 : Hid (∀ w, Calls Try.prog 64 #[.int .i64 n, .int .i64 0, .int .i64 1000000000] w fun e w' => e = .returned (.bool (inBd 0 1000000000 n)) ∧ w = w') := Lib.hid fun w => in_any n 0 1000000000 w
  have H2 : Hid (∀ w, Calls Try.prog 64 #[.int .i64 d, .int .i64 1, .int .i64 1000000000] w fun e w' => e = .returned (.bool (inBd 1 1000000000 d)) ∧ w = w') := Lib.hid fun w => in_any d 1 1000000000 w
  have hbx := RBox.start w n d
  have c0 := hbx.1
  have c1 := hbx.2.1
  have HB := Lib.hid hbx
  have hb0 := hbx.2.2.2
  clear hbx
  rcases Bool.eq_false_or_eq_true (inBd 0 1000000000 n) with a1 | a1
  · have hn : 0 ≤ n ∧ n ≤ 1000000000 := by unfold inBd at a1; simpa only [Bool.and_eq_true, decide_eq_true_eq] using a1
    rcases Bool.eq_false_or_eq_true (inBd 1 1000000000 d) with a2 | a2
    · have hd : 1 ≤ d ∧ d ≤ 1000000000 := by unfold inBd at a2; simpa only [Bool.and_eq_true, decide_eq_true_eq] using a2
      have HR : Hid (∀ w, Calls Try.prog 62 #[.int .i64 n, .int .i64 d] w (Ret w (.agg #[.int .i64 (numZ n d), .int .i64 (denZ n d)]))) := Lib.hid fun w => ruRatioZ_any n d w (by omega) (by omega)
      have e : ruC n d = (numZ n d == n && denZ n d == d) := by unfold ruC; rw [a1, a2]; rfl
      rw [e]
      have A1 : Hid (inB n 0 1000000000 = true) := Lib.hid a1
      have A2 : Hid (inB d 1 1000000000 = true) := Lib.hid a2
      generalize numZ n d = x at *
      generalize denZ n d = y at *
      clear a1 a2 e H1 H2
      by_cases hx : x = n
      · have b1 : (x == n) = true := by rw [beq_iff_eq]; exact hx
        by_cases hy : y = d
        · have b2 : (y == d) = true := by rw [beq_iff_eq]; exact hy
          rw [b1, b2]
          obtain rfl : n = x := hx.symm
          obtain rfl : d = y := hy.symm
          go_enter Try.func78, Try.ntmps78
          go_wp2_with fail
          go_region_held3 (fun W => W.cell? ⟨w.heap.size, 0, none⟩ = some (.int .i64 n) ∧ W.cell? ⟨w.heap.size, 1, none⟩ = some (.int .i64 d) ∧ RBox w w.heap.size n d W) (first | exact ⟨HB.out.drew.1, HB.out.drew.2.1, HB.out.drew⟩ | assumption | exact rboxKeep (by assumption) (by assumption)) (first | (go_at_call 64; refine (in_any _ _ _ _).mono ?_; rintro e w' ⟨rfl, rfl⟩; first | rw [A1.out] | rw [A2.out]) | (go_at_call 62; refine (HR.out _).mono ?_; rintro e w' ⟨rfl, hb'⟩))
          go_wp2_with fail
          go_ret
          exact ⟨rfl, rboxBel (by assumption)⟩
        · have b2 : (y == d) = false := beq_eq_false_iff_ne.2 hy
          rw [b1, b2]
          obtain rfl : n = x := hx.symm
          go_enter Try.func78, Try.ntmps78
          go_wp2_with fail
          go_region_held3 (fun W => W.cell? ⟨w.heap.size, 0, none⟩ = some (.int .i64 n) ∧ W.cell? ⟨w.heap.size, 1, none⟩ = some (.int .i64 d) ∧ RBox w w.heap.size n d W) (first | exact ⟨HB.out.drew.1, HB.out.drew.2.1, HB.out.drew⟩ | assumption | exact rboxKeep (by assumption) (by assumption)) (first | (go_at_call 64; refine (in_any _ _ _ _).mono ?_; rintro e w' ⟨rfl, rfl⟩; first | rw [A1.out] | rw [A2.out]) | (go_at_call 62; refine (HR.out _).mono ?_; rintro e w' ⟨rfl, hb'⟩))
          go_wp2_with fail
          go_ret
          exact ⟨rfl, rboxBel (by assumption)⟩
      · have b1 : (x == n) = false := beq_eq_false_iff_ne.2 hx
        rw [b1]
        go_enter Try.func78, Try.ntmps78
        go_wp2_with fail
        go_region_held3 (fun W => W.cell? ⟨w.heap.size, 0, none⟩ = some (.int .i64 n) ∧ W.cell? ⟨w.heap.size, 1, none⟩ = some (.int .i64 d) ∧ RBox w w.heap.size n d W) (first | exact ⟨HB.out.drew.1, HB.out.drew.2.1, HB.out.drew⟩ | assumption | exact rboxKeep (by assumption) (by assumption)) (first | (go_at_call 64; refine (in_any _ _ _ _).mono ?_; rintro e w' ⟨rfl, rfl⟩; first | rw [A1.out] | rw [A2.out]) | (go_at_call 62; refine (HR.out _).mono ?_; rintro e w' ⟨rfl, hb'⟩))
        go_wp2_with fail
        go_ret
        exact ⟨rfl, rboxBel (by assumption)⟩
    · have e : ruC n d = false := by unfold ruC; rw [a1, a2]; rfl
      rw [e]
      rw [a1] at H1
      rw [a2] at H2
      clear a1 a2 e
      go_enter Try.func78, Try.ntmps78
      go_wp2_with fail
      go_quiet (((go_at_call 64; first | (with_reducible exact Calls.quiet_of_same (still (H1.out _))) | (with_reducible exact Calls.quiet_of_same (still (H2.out _))))))
      go_wp2_with fail
      go_ret
      exact ⟨rfl, below_drewN hb0 _⟩
  · have e : ruC n d = false := by unfold ruC; rw [a1]; rfl
    rw [e]
    rw [a1] at H1
    clear a1 e H2
    go_enter Try.func78, Try.ntmps78
    go_wp2_with fail
    go_quiet ((go_at_call 64; exact Calls.quiet_of_same (still (H1.out _))))
    go_wp2_with fail
    go_ret
    exact ⟨rfl, below_drewN hb0 _⟩
def sgZ (x : Int) : Int := if x < 0 then -1 else if 0 < x then 1 else 0
set_option maxHeartbeats 400000 in
theorem sign_any (x : Int) (w : World) : Calls Try.prog 79 #[.int .i64 x] w fun e w' => e = .returned (.int .i64 (sgZ x)) ∧ w = w' := by
  go_enter Try.func79, Try.ntmps79
  go_wp2_with fail
  all_goals go_ret
  all_goals exact ⟨ret_int (by unfold sgZ; (repeat' split) <;> omega), rfl⟩
def ccmOk (n d m e : Int) : Bool := ruC n d && ruC m e
def ccmV (n d m e : Int) : Int := if ccmOk n d m e = true then sgZ (n * e - m * d) else 0
/-- two chances, in their boxes -/
structure R2 (w : World) (n d m e : Int) (W : World) : Prop where
  a : RBox w w.heap.size n d W
  b : RBox w (w.heap.size + 1) m e W
theorem R2.kept {w W W' : World} {n d m e : Int} (h : R2 w n d m e W) (hb : Below W.heap.size W W') : R2 w n d m e W' := ⟨h.a.kept hb, h.b.kept hb⟩
theorem R2.start (w : World) (n d m e : Int) : R2 w n d m e ((w.alloc (.cells #[.int .i64 n, .int .i64 d] 25)).alloc (.cells #[.int .i64 m, .int .i64 e] 25)) :=
  ⟨(RBox.start w n d).kept ((Below.refl _ _).alloc (Nat.le_refl _) _), by simp [go_sem], by simp [go_sem], by simp, ((Below.refl _ _).alloc (Nat.le_refl _) _).alloc (by simp) _⟩
set_option maxRecDepth 100000 in
set_option maxHeartbeats 1000000 in
theorem specCompare_ret (n d m e : Int) (w : World) : Calls Try.prog 51 #[.agg #[.int .i64 n, .int .i64 d], .agg #[.int .i64 m, .int .i64 e]] w (Ret w (.tuple #[.int .i64 (ccmV n d m e), .bool (ccmOk n d m e)])) := by
  have H1 : Hid (∀ w, Calls Try.prog 78 #[.agg #[.int .i64 n, .int .i64 d]] w (Ret w (.bool (ruC n d)))) := Lib.hid fun w => ruCompared_any n d w
  have H2 : Hid (∀ w, Calls Try.prog 78 #[.agg #[.int .i64 m, .int .i64 e]] w (Ret w (.bool (ruC m e)))) := Lib.hid fun w => ruCompared_any m e w
  have HX := Lib.hid (R2.start w n d m e)
  rcases Bool.eq_false_or_eq_true (ruC n d) with a1 | a1
  · rcases Bool.eq_false_or_eq_true (ruC m e) with a2 | a2
    · have hok : ccmOk n d m e = true := by unfold ccmOk; rw [a1, a2]; rfl
      have e1 : ccmV n d m e = sgZ (n * e - m * d) := by unfold ccmV; rw [if_pos hok]
      have h1 := ruC_of a1
      have h2 := ruC_of a2
      rw [hok, e1]
      rw [a1] at H1
      rw [a2] at H2
      have m1 := mul_le_of' (x := n) (y := e) (A := 1000000000) (B := 1000000000) (by omega) (by omega)
      have m2 := mul_le_of' (x := m) (y := d) (A := 1000000000) (B := 1000000000) (by omega) (by omega)
      have HS : Hid (∀ w, Calls Try.prog 79 #[.int .i64 (n * e - m * d)] w fun en w' => en = .returned (.int .i64 (sgZ (n * e - m * d))) ∧ w = w') := Lib.hid fun w => sign_any _ w
      clear hok e1 a1 a2
      go_enter Try.func51, Try.ntmps51
      go_wp2_with fail
      refine (H1.out _).mono ?_
      rintro en wa ⟨rfl, hba⟩
      have hx := HX.out.kept hba
      have r0 := hx.a.1
      have r1 := hx.a.2.1
      have r2 := hx.b.1
      have r3 := hx.b.2.1
      have HX2 := Lib.hid hx
      clear hx hba
      go_wp2_with fail
      refine (H2.out _).mono ?_
      rintro en wb ⟨rfl, hbb⟩
      have hx := HX2.out.kept hbb
      clear r0 r1 r2 r3 hbb
      have r0 := hx.a.1
      have r1 := hx.a.2.1
      have r2 := hx.b.1
      have r3 := hx.b.2.1
      have HX3 := Lib.hid hx
      clear hx
      go_wp2_with (go_at_call 79; refine (HS.out _).mono ?_; rintro en wc ⟨rfl, rfl⟩)
      go_ret2
      exact ⟨rfl, HX3.out.a.2.2.2⟩
    · have hok : ccmOk n d m e = false := by unfold ccmOk; rw [a1, a2]; rfl
      have e1 : ccmV n d m e = 0 := by unfold ccmV; rw [hok]; rfl
      rw [hok, e1]
      rw [a1] at H1
      rw [a2] at H2
      clear hok e1 a1 a2
      go_enter Try.func51, Try.ntmps51
      go_wp2_with fail
      refine (H1.out _).mono ?_
      rintro en wa ⟨rfl, hba⟩
      have hx := HX.out.kept hba
      have r2 := hx.b.1
      have r3 := hx.b.2.1
      have HX2 := Lib.hid hx
      clear hx hba
      go_wp2_with fail
      refine (H2.out _).mono ?_
      rintro en wb ⟨rfl, hbb⟩
      have HX3 := Lib.hid (HX2.out.kept hbb)
      clear hbb
      go_wp2_with fail
      go_ret2
      exact ⟨rfl, HX3.out.a.2.2.2⟩
  · have hok : ccmOk n d m e = false := by unfold ccmOk; rw [a1]; rfl
    have e1 : ccmV n d m e = 0 := by unfold ccmV; rw [hok]; rfl
    rw [hok, e1]
    rw [a1] at H1
    clear hok e1 a1 H2
    go_enter Try.func51, Try.ntmps51
    go_wp2_with fail
    refine (H1.out _).mono ?_
    rintro en wa ⟨rfl, hba⟩
    have HX2 := Lib.hid (HX.out.kept hba)
    clear hba
    go_wp2_with fail
    go_ret2
    exact ⟨rfl, HX2.out.a.2.2.2⟩
end Go.Proofs.Ytfimcadnlhohlaa
