/- The program's sumOfJumps and countApart. -/
import Derived.Test.YtnlmjeakdjmohaaToI
import Derived.Test.YtnlmjeakdjmohaaBtwMath
import Derived.Test.YtnlmjeakdjmohaaHoldI
import Derived.ScopeJumps
namespace Go.Proofs.Ytnlmjeakdjmohaa
open Go.RowKit
set_option linter.unusedVariables false
set_option maxRecDepth 100000 in
set_option maxHeartbeats 1000000 in
theorem sumOfJumps_ret (n : Nat) (e0 a0 b0 : Int) (w : World) (hn : n ≤ 40) (he : -40 ≤ e0 ∧ e0 ≤ 40) (ha : -1000 ≤ a0 ∧ a0 ≤ 1000) (hb : -1000 ≤ b0 ∧ b0 ≤ 1000) (hs : JSide a0 b0 e0) :
    Calls Try.prog 151 #[.int .i64 (n : Nat), .int .i64 e0, .int .i64 a0, .int .i64 b0] w fun e w' => e = .returned (.int .i64 (jS 100 n e0 a0 b0)) ∧ w = w' := by
  generalize hT : jS 100 n e0 a0 b0 = T
  have HT0 : Hid (0 + 1 * jS (100 - 0) n e0 a0 b0 = T) := Lib.hid (by rw [← hT, Nat.sub_zero]; omega)
  have HS0 := Lib.hid hs
  clear hT hs
  go_enter Try.func151, Try.ntmps151
  go_wp2
  refine wp_scope_jumps 0 (fun a' wr => ∃ (i : Nat) (x a b sm sg : Int) (u11 u12 u13 u14 u15 u16 u17 u18 u19 u20 u21 u22 u23 u24 u25 u26 u27 u28 u29 u30 : Value), i ≤ x.natAbs ∧ x.natAbs ≤ 200 ∧ (sg = 1 ∨ sg = -1) ∧ (-(1099511627776 * (i : Int)) ≤ sm ∧ sm ≤ 1099511627776 * i) ∧ (-1000 ≤ a ∧ a ≤ 1000) ∧ (-1000 ≤ b ∧ b ≤ 1000) ∧ Hid (JSide a b x) ∧ Hid (sm + sg * jS (100 - i) n x a b = T) ∧ w = wr ∧ a' = { tmps := #[.int .i64 (n : Nat), .int .i64 x, .int .i64 a, .int .i64 b, undef, undef, undef, undef, .int .i64 0, .int .i64 sm, .int .i64 sg, u11, u12, u13, u14, u15, u16, u17, u18, u19, u20, u21, u22, u23, u24, u25, u26, u27, u28, u29, u30], defers := [] }) (fun a' _ => 1000 - (intOf (a'.tmps.getD 1 undef)).natAbs) rfl ?_ ?_
  · go_wp2
    go_step3
    have HC : Hid (∀ W, Calls Try.prog 138 #[.int .i64 (n : Nat), .int .i64 (2 * a0 - e0)] W fun e W' => e = .returned (.int .i64 (tz n (2 * a0 - e0))) ∧ W = W') := Lib.hid fun W => by
      rw [← toZ_tz]
      exact countToEnd_ret _ _ W (by omega) (by omega)
    have hcb : 0 ≤ tz n (2 * a0 - e0) ∧ tz n (2 * a0 - e0) ≤ 1099511627776 := by rw [← toZ_tz]; exact toZ_bd _ _ (by omega)
    by_cases hz : tz n (2 * a0 - e0) = 0
    · have HX : Hid ((0 : Int) = T) := Lib.hid (by have := HT0.out; rw [jS_none _ _ _ _ HS0.out hz] at this; simpa using this)
      rw [hz] at HC
      clear hcb hz
      go_wp2_with (go_at_call 138; refine (HC.out _).mono ?_; rintro e w' ⟨rfl, rfl⟩)
      simp only [Exit.jump]
      go_ret
      exact ⟨by rw [← HX.out]; rfl, rfl⟩
    · have hfar := HS0.out.far
      have hnear := tz_near hz
      have hj := HS0.out.jump
      have HT2 : Hid ((0 : Int) + (1 : Int) * tz n (2 * a0 - e0) + -(1 : Int) * jS (100 - (0 + 1)) n (2 * a0 - e0) b0 a0 = T) := Lib.hid (by
        have := HT0.out
        rw [show 100 - 0 = (100 - (0 + 1)) + 1 by omega, jS, Int.mul_sub] at this
        rw [Int.neg_mul]
        omega)
      have hq : (tz n (2 * a0 - e0) == 0) = false := beq_eq_false_iff_ne.2 hz
      have hp : -1099511627776 ≤ (1 : Int) * tz n (2 * a0 - e0) ∧ (1 : Int) * tz n (2 * a0 - e0) ≤ 1099511627776 := by omega
      clear hz HT0 HS0
      generalize tz n (2 * a0 - e0) = c at *
      go_wp2_with (go_at_call 138; refine (HC.out _).mono ?_; rintro e w' ⟨rfl, rfl⟩)
      go_step3
      refine ⟨rfl, 0 + 1, 2 * a0 - e0, b0, a0, _, _, _, _, _, _, _, _, _, _, _, _, _, _, _, _, _, _, _, _, _, _, by omega, by omega, .inr rfl, by omega, hb, ha, Lib.hid hj, Lib.hid (by have := HT2.out; simp at this ⊢; omega), rfl, rfl⟩
  · rintro a' wr ⟨i, x, a, b, sm, sg, u11, u12, u13, u14, u15, u16, u17, u18, u19, u20, u21, u22, u23, u24, u25, u26, u27, u28, u29, u30, hi1, hi2, hsg, hsm, ha', hb', HS, HT, rfl, rfl⟩
    have hi : i ≤ x.natAbs ∧ x.natAbs ≤ 200 := ⟨hi1, hi2⟩

    have HC : Hid (∀ W, Calls Try.prog 138 #[.int .i64 (n : Nat), .int .i64 (2 * a - x)] W fun e W' => e = .returned (.int .i64 (tz n (2 * a - x))) ∧ W = W') := Lib.hid fun W => by
      rw [← toZ_tz]
      exact countToEnd_ret _ _ W (by omega) (by omega)
    have hcb : 0 ≤ tz n (2 * a - x) ∧ tz n (2 * a - x) ≤ 1099511627776 := by rw [← toZ_tz]; exact toZ_bd _ _ (by omega)
    by_cases hz : tz n (2 * a - x) = 0
    · have HX : Hid (sm = T) := Lib.hid (by have := HT.out; rw [jS_none _ _ _ _ HS.out hz] at this; simpa using this)
      rw [hz] at HC
      clear hcb hz
      go_wp2_with (go_at_call 138; refine (HC.out _).mono ?_; rintro e w' ⟨rfl, rfl⟩)
      simp only [Exit.jump]
      go_ret
      exact ⟨by rw [HX.out]; rfl, rfl⟩
    · have hfar := HS.out.far
      have hnear := tz_near hz
      have hj := HS.out.jump
      have HT2 : Hid (sm + sg * tz n (2 * a - x) + -sg * jS (100 - (i + 1)) n (2 * a - x) b a = T) := Lib.hid (by
        have := HT.out
        rw [show 100 - i = (100 - (i + 1)) + 1 by omega, jS, Int.mul_sub] at this
        rw [Int.neg_mul]
        omega)
      have hq : (tz n (2 * a - x) == 0) = false := beq_eq_false_iff_ne.2 hz
      have hp : -1099511627776 ≤ sg * tz n (2 * a - x) ∧ sg * tz n (2 * a - x) ≤ 1099511627776 := by rcases hsg with rfl | rfl <;> omega
      clear hz HT HS
      generalize tz n (2 * a - x) = c at *
      go_wp2_with (go_at_call 138; refine (HC.out _).mono ?_; rintro e w' ⟨rfl, rfl⟩)
      go_step3
      refine ⟨rfl, ⟨i + 1, 2 * a - x, b, a, _, _, _, _, _, _, _, _, _, _, _, _, _, _, _, _, _, _, _, _, _, _, by omega, by omega, by omega, by omega, hb', ha', Lib.hid hj, HT2, rfl, rfl⟩, by simp [intOf]; omega⟩

end Go.Proofs.Ytnlmjeakdjmohaa
