/- The model's CountBothTouched, PairOf. -/
import Derived.Test.YtlgiamgjimffnaaSumS
import Derived.Deep.RegionLaw
namespace Go.Proofs.Ytlgiamgjimffnaa
open Go.RowKit
set_option linter.unusedVariables false
def bbV (n e lo hi : Int) : Int := if lo = 0 ∧ hi = 0 then toZ n e else toZ n e - (toZ n e - tchZ n e hi) - (toZ n e - tchZ n e lo) + (if lo < 0 ∧ 0 < hi then btZ n e (lo + 1) (hi - 1) else 0)
def btoV (a b lo hi : Int) : Int := if cbOk a b lo hi = true then bbV (a + b) (a - b) lo hi else 0
set_option maxHeartbeats 800000 in
theorem specCountBothTouched_ret (a b lo hi : Int) (w : World) : Calls Try.prog 65 #[.int .i64 a, .int .i64 b, .int .i64 lo, .int .i64 hi] w (Ret w (.tuple #[.int .i64 (btoV a b lo hi), .bool (cbOk a b lo hi)])) := by
  have HW := Lib.hid (miWalls_any lo hi)
  rcases Bool.eq_false_or_eq_true (cntOk a b) with hc | hc <;> rcases Bool.eq_false_or_eq_true (walB lo hi) with hw | hw
  · have e1 : cbOk a b lo hi = true := by simp [cbOk, hc, hw]
    have e2 : btoV a b lo hi = bbV (a + b) (a - b) lo hi := by rw [btoV, if_pos e1]
    obtain ⟨c1, c2, c3⟩ := cntOk_of hc
    obtain ⟨⟨l1, l2⟩, h1, h2⟩ := walB_of hw
    have n1 : 0 ≤ a + b ∧ a + b ≤ 40 := by omega
    have d1 : -40 ≤ a - b ∧ a - b ≤ 40 := by omega
    have HT : Hid (∀ w, Calls Try.prog 102 #[.int .i64 (a + b), .int .i64 (a - b)] w (Ret w (.int .i64 (toZ (a + b) (a - b))))) := Lib.hid fun w => miTo_ret _ _ w n1 (by omega)
    have HH : Hid (∀ w, Calls Try.prog 97 #[.int .i64 (a + b), .int .i64 (a - b), .int .i64 hi] w (Ret w (.int .i64 (tchZ (a + b) (a - b) hi)))) := Lib.hid fun w => miTouching_ret _ _ _ w n1 d1 (by omega)
    have HL : Hid (∀ w, Calls Try.prog 97 #[.int .i64 (a + b), .int .i64 (a - b), .int .i64 lo] w (Ret w (.int .i64 (tchZ (a + b) (a - b) lo)))) := Lib.hid fun w => miTouching_ret _ _ _ w n1 d1 (by omega)
    have HC : Hid (∀ w, Calls Try.prog 107 #[.int .i64 (a + b), .int .i64 (a - b), .int .i64 (lo + 1), .int .i64 (hi - 1)] w (Ret w (.int .i64 (btZ (a + b) (a - b) (lo + 1) (hi - 1))))) := Lib.hid fun w => miCount_ret _ _ _ _ w n1 d1 (by omega) (by omega)
    have t1 := toZ_bd (a + b) (a - b) n1.2
    have t2 := tchZ_bd (a + b) (a - b) hi n1.2
    have t3 := tchZ_bd (a + b) (a - b) lo n1.2
    have t4 := btZ_bd (a + b) (a - b) (lo + 1) (hi - 1) n1
    have EV : Hid (bbV (a + b) (a - b) lo hi = if lo = 0 ∧ hi = 0 then toZ (a + b) (a - b) else toZ (a + b) (a - b) - (toZ (a + b) (a - b) - tchZ (a + b) (a - b) hi) - (toZ (a + b) (a - b) - tchZ (a + b) (a - b) lo) + (if lo < 0 ∧ 0 < hi then btZ (a + b) (a - b) (lo + 1) (hi - 1) else 0)) := Lib.hid rfl
    rw [e1, e2]
    clear e1 e2
    generalize toZ (a + b) (a - b) = z1 at *
    generalize tchZ (a + b) (a - b) hi = z2 at *
    generalize tchZ (a + b) (a - b) lo = z3 at *
    generalize btZ (a + b) (a - b) (lo + 1) (hi - 1) = z4 at *
    have hacc := Below.refl w.heap.size w
    have tok1 : True := trivial
    by_cases h00 : lo = 0 ∧ hi = 0
    · obtain ⟨rfl, rfl⟩ := h00
      rw [EV.out, if_pos ⟨rfl, rfl⟩]
      go_enter Try.func65, Try.ntmps65
      go_wp2_with (first | (go_at_call 96; refine (steps_any a b _).mono ?_; rintro e w' ⟨rfl, rfl⟩) | (go_at_call 104; refine (HW.out _).mono ?_; rintro e w' ⟨rfl, rfl⟩) | (go_at_call 102; refine (HT.out _).mono ?_; rintro e w1 ⟨rfl, hb1⟩; replace hacc := hacc.trans (hb1.mono hacc.size); clear hb1))
      go_ret2
      exact ⟨rfl, hacc⟩
    · have q0 : (lo == 0 && hi == 0) = false := by simp; omega
      by_cases hlh : lo < 0 ∧ 0 < hi
      · have q1 : ¬ lo = 0 := by omega
        obtain ⟨q2, q3⟩ := hlh
        have hne : ¬ lo = hi := by omega
        rw [EV.out, if_neg h00, if_pos ⟨q2, q3⟩]
        clear h00
        go_enter Try.func65, Try.ntmps65
        go_wp2_with (first | (go_at_call 96; refine (steps_any a b _).mono ?_; rintro e w' ⟨rfl, rfl⟩) | (go_at_call 104; refine (HW.out _).mono ?_; rintro e w' ⟨rfl, rfl⟩) | (go_at_call 102; refine (HT.out _).mono ?_; rintro e w1 ⟨rfl, hb1⟩; replace hacc := hacc.trans (hb1.mono hacc.size); clear hb1) | (have _t := tok1; go_at_call 97; clear _t tok1; refine (HH.out _).mono ?_; rintro e w1 ⟨rfl, hb1⟩; replace hacc := hacc.trans (hb1.mono hacc.size); clear hb1) | (go_at_call 97; refine (HL.out _).mono ?_; rintro e w1 ⟨rfl, hb1⟩; replace hacc := hacc.trans (hb1.mono hacc.size); clear hb1) | (go_at_call 107; refine (HC.out _).mono ?_; rintro e w1 ⟨rfl, hb1⟩; replace hacc := hacc.trans (hb1.mono hacc.size); clear hb1))
        go_ret2
        exact ⟨rfl, hacc⟩
      · have q1 : (decide (lo < 0) && decide (0 < hi)) = false := by simp; omega
        rw [EV.out, if_neg h00, if_neg hlh]
        rcases Int.lt_or_le lo 0 with q2 | q2
        · have q3 : hi = 0 := by omega
          subst q3
          have q4 : ¬ lo = 0 := by omega
          clear h00 hlh q0 q1
          go_enter Try.func65, Try.ntmps65
          go_wp2_with (first | (go_at_call 96; refine (steps_any a b _).mono ?_; rintro e w' ⟨rfl, rfl⟩) | (go_at_call 104; refine (HW.out _).mono ?_; rintro e w' ⟨rfl, rfl⟩) | (go_at_call 102; refine (HT.out _).mono ?_; rintro e w1 ⟨rfl, hb1⟩; replace hacc := hacc.trans (hb1.mono hacc.size); clear hb1) | (have _t := tok1; go_at_call 97; clear _t tok1; refine (HH.out _).mono ?_; rintro e w1 ⟨rfl, hb1⟩; replace hacc := hacc.trans (hb1.mono hacc.size); clear hb1) | (go_at_call 97; refine (HL.out _).mono ?_; rintro e w1 ⟨rfl, hb1⟩; replace hacc := hacc.trans (hb1.mono hacc.size); clear hb1))
          go_ret2
          exact ⟨by simp, hacc⟩
        · have q3 : lo = 0 := by omega
          subst q3
          have q4 : ¬ hi = 0 := by omega
          clear h00 hlh q0 q1
          go_enter Try.func65, Try.ntmps65
          go_wp2_with (first | (go_at_call 96; refine (steps_any a b _).mono ?_; rintro e w' ⟨rfl, rfl⟩) | (go_at_call 104; refine (HW.out _).mono ?_; rintro e w' ⟨rfl, rfl⟩) | (go_at_call 102; refine (HT.out _).mono ?_; rintro e w1 ⟨rfl, hb1⟩; replace hacc := hacc.trans (hb1.mono hacc.size); clear hb1) | (have _t := tok1; go_at_call 97; clear _t tok1; refine (HH.out _).mono ?_; rintro e w1 ⟨rfl, hb1⟩; replace hacc := hacc.trans (hb1.mono hacc.size); clear hb1) | (go_at_call 97; refine (HL.out _).mono ?_; rintro e w1 ⟨rfl, hb1⟩; replace hacc := hacc.trans (hb1.mono hacc.size); clear hb1))
          go_ret2
          exact ⟨by simp, hacc⟩
  all_goals
    have e1 : cbOk a b lo hi = false := by simp [cbOk, hc, hw]
    have e2 : btoV a b lo hi = 0 := by rw [btoV, e1]; rfl
    rw [e1, e2]
    clear e1 e2
    go_enter Try.func65, Try.ntmps65
    go_wp2_with (first | (go_at_call 96; refine (steps_any a b _).mono ?_; rintro e w' ⟨rfl, rfl⟩) | (go_at_call 104; refine (HW.out _).mono ?_; rintro e w' ⟨rfl, rfl⟩))
    go_ret2
    exact ⟨rfl, Below.refl _ _⟩
end Go.Proofs.Ytlgiamgjimffnaa
