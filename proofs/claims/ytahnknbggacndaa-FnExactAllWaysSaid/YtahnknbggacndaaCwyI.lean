/- The program's CountWays. -/
import Derived.Test.YtahnknbggacndaaPlI
import Derived.Test.YtahnknbggacndaaNcN
import Derived.Test.YtahnknbggacndaaCounts
namespace Go.Proofs.Ytahnknbggacndaa
open Go.RowKit
set_option linter.unusedVariables false
theorem cnt_nc {x y u v : Int} (h1 : cellB x y = true) (h2 : cellB u v = true) : cntV (v - y) (u - x) = ncV x y u v := by
  have a := (cellB_iff _ _).1 h1
  have b := (cellB_iff _ _).1 h2
  unfold cntV ncV
  by_cases hx : u - x < 0 ∨ v - y < 0
  · rw [if_pos hx]
    have : cntOk (v - y) (u - x) = false := by
      unfold cntOk
      rcases hx with h | h
      · rw [show decide (0 ≤ u - x) = false from decide_eq_false (by omega)]
        simp
      · rw [show decide (0 ≤ v - y) = false from decide_eq_false (by omega)]
        simp
    rw [this]
    rfl
  · rw [if_neg hx]
    have : cntOk (v - y) (u - x) = true := by
      unfold cntOk
      rw [decide_eq_true (show 0 ≤ v - y by omega), decide_eq_true (show 0 ≤ u - x by omega), decide_eq_true (show v - y + (u - x) ≤ 40 by omega)]
      rfl
    rw [this, if_pos rfl]
    obtain ⟨p, hp⟩ := Int.eq_ofNat_of_zero_le (show 0 ≤ v - y by omega)
    obtain ⟨q, hq⟩ := Int.eq_ofNat_of_zero_le (show 0 ≤ u - x by omega)
    rw [hp, hq]
    have e1 := chZ_nat (p + q) p
    have e2 := chZ_nat (q + p) q
    rw [Int.natCast_add] at e1 e2
    exact e1.trans ((by rw [chs_symm p q, Nat.add_comm p q] : ((chs (p + q) p : Nat) : Int) = ((chs (q + p) q : Nat) : Int)).trans e2.symm)
set_option maxRecDepth 100000 in
set_option maxHeartbeats 1000000 in
theorem countWaysI_ret (x y u v : Int) (w : World) : Calls Try.prog 36 #[celV x y, celV u v] w (Ret w (.tuple #[.int .i64 (cyV x y u v), .bool (cyOk x y u v)])) := by
  have HX := Lib.hid (C2.start w x y u v)
  have c0 := HX.out.a0
  have c1 := HX.out.a1
  have H1 : Hid (∀ w, Calls Try.prog 22 #[celV x y] w (Ret w (.bool (cellB x y)))) := Lib.hid fun w => isCellI_ret x y w
  have H2 : Hid (∀ w, Calls Try.prog 22 #[celV u v] w (Ret w (.bool (cellB u v)))) := Lib.hid fun w => isCellI_ret u v w
  rcases Bool.eq_false_or_eq_true (cellB x y) with a1 | a1
  · rcases Bool.eq_false_or_eq_true (cellB u v) with a2 | a2
    · have hok : cyOk x y u v = true := by unfold cyOk; rw [a1, a2]; rfl
      have e1 : cyV x y u v = ncV x y u v := by unfold cyV; rw [if_pos hok]
      have h1 := (cellB_iff _ _).1 a1
      have h2 := (cellB_iff _ _).1 a2
      have HN : Hid (∀ w, Calls Try.prog 83 #[.int .i64 (v - y), .int .i64 (u - x)] w fun e w' => e = .returned (.tuple #[.int .i64 (ncV x y u v), .bool (cntOk (v - y) (u - x))]) ∧ w = w') := Lib.hid fun w => by rw [← cnt_nc a1 a2]; exact count_ret _ _ w
      have k1 := IntWalk.i64_in (u - x) (by omega)
      have k2 := IntWalk.i64_in (v - y) (by omega)
      rw [e1, hok]
      rw [a1] at H1
      rw [a2] at H2
      generalize ncV x y u v = z at *
      generalize cntOk (v - y) (u - x) = bb at *
      clear hok e1 a1 a2 h1 h2
      go_enter Try.func36, Try.ntmps36
      go_wp2_with fail
      refine (H1.out _).mono ?_
      rintro e w1 ⟨rfl, hb1⟩
      have hx := HX.out.kept hb1
      have r2 := hx.b0
      have r3 := hx.b1
      have HX1 := Lib.hid hx
      clear hx hb1
      go_wp2_with fail
      refine (H2.out _).mono ?_
      rintro e w2 ⟨rfl, hb2⟩
      have hx := HX1.out.kept hb2
      clear r2 r3
      have r0 := hx.a0
      have r1 := hx.a1
      have r2 := hx.b0
      have r3 := hx.b1
      have HX2 := Lib.hid hx
      clear hx hb2
      go_wp2_with fail
      refine (HN.out _).mono ?_
      rintro e w3 ⟨rfl, rfl⟩
      go_wp2_with fail
      go_ret2
      exact ⟨rfl, HX2.out.below⟩
    · have hok : cyOk x y u v = false := by unfold cyOk; rw [a1, a2]; rfl
      have e1 : cyV x y u v = 0 := by simp [cyV, hok]
      rw [e1, hok]
      rw [a1] at H1
      rw [a2] at H2
      clear hok e1 a1 a2
      go_enter Try.func36, Try.ntmps36
      go_wp2_with fail
      refine (H1.out _).mono ?_
      rintro e w1 ⟨rfl, hb1⟩
      have hx := HX.out.kept hb1
      have r2 := hx.b0
      have r3 := hx.b1
      have HX1 := Lib.hid hx
      clear hx hb1
      go_wp2_with fail
      refine (H2.out _).mono ?_
      rintro e w2 ⟨rfl, hb2⟩
      have HX2 := Lib.hid (HX1.out.kept hb2)
      clear hb2
      go_wp2_with fail
      go_ret2
      exact ⟨rfl, HX2.out.below⟩
  · have hok : cyOk x y u v = false := by unfold cyOk; rw [a1]; rfl
    have e1 : cyV x y u v = 0 := by simp [cyV, hok]
    rw [e1, hok]
    rw [a1] at H1
    clear hok e1 a1 H2
    go_enter Try.func36, Try.ntmps36
    go_wp2_with fail
    refine (H1.out _).mono ?_
    rintro e w1 ⟨rfl, hb1⟩
    have HX1 := Lib.hid (HX.out.kept hb1)
    clear hb1
    go_wp2_with fail
    go_ret2
    exact ⟨rfl, HX1.out.below⟩
end Go.Proofs.Ytahnknbggacndaa
