/- The model's miCount, CountBetween. -/
import Derived.Test.YtlgiamgjimffnaaBetS
namespace Go.Proofs.Ytlgiamgjimffnaa
open Go.RowKit
set_option linter.unusedVariables false
theorem two_bd (K W : Int) (hK : -40 ≤ K ∧ K ≤ 40) (hW : -202 ≤ W ∧ W ≤ 202) : -16160 ≤ 2 * K * W ∧ 2 * K * W ≤ 16160 := by
  have h1 : (K * W).natAbs ≤ 40 * 202 := by rw [Int.natAbs_mul]; exact Nat.mul_le_mul (by omega) (by omega)
  rw [Int.mul_assoc]
  omega
set_option maxHeartbeats 800000 in
theorem miCount_ret (n e lo hi : Int) (w : World) (hn : 0 ≤ n ∧ n ≤ 40) (he : -40 ≤ e ∧ e ≤ 40) (hl : -100 ≤ lo ∧ lo ≤ 100) (hh : -100 ≤ hi ∧ hi ≤ 100) :
    Calls Try.prog 107 #[.int .i64 n, .int .i64 e, .int .i64 lo, .int .i64 hi] w (Ret w (.int .i64 (btZ n e lo hi))) := by
  have HI := Lib.hid (in_any e lo hi)
  rcases Bool.eq_false_or_eq_true (inB e lo hi) with hq | hq
  · have e1 : btZ n e lo hi = btTo n e lo hi (2 * n + 1).toNat := by rw [btZ, if_pos hq]
    have HN := Lib.hid hn
    have HE := Lib.hid he
    obtain ⟨n1, n2⟩ := hn
    obtain ⟨g1, g2⟩ := he
    obtain ⟨l1, l2⟩ := hl
    obtain ⟨h1, h2⟩ := hh
    rw [e1]
    clear e1
    go_enter Try.func107, Try.ntmps107
    go_wp2_with (go_at_call 101; refine (HI.out _).mono ?_; rintro e w' ⟨rfl, rfl⟩)
    go_loopw [10, 11] (fun u i wr => ∃ j : Nat, (j : Int) ≤ 2 * n + 1 ∧ i = .int .i64 ((j : Int) - n) ∧ u = .int .i64 (btTo n e lo hi j) ∧ Below w.heap.size w wr) (fun _ i _ => (n + 1 - intOf i).toNat)
    case atStart => exact ⟨0, by omega, by go_num, rfl, Below.refl _ _⟩
    case round =>
      obtain ⟨j, hj, rfl, rfl, hb⟩ := hrel
      by_cases hlt : (j : Int) ≤ 2 * n
      · have hbt := btTo_bd n e lo hi n2 j
        have htb := two_bd ((j : Int) - n) (hi - lo + 2) (by omega) (by omega)
        have HST : Hid (btTo n e lo hi (j + 1) = btTo n e lo hi j + (toZ n (e + 2 * ((j : Int) - n) * (hi - lo + 2)) - toZ n (2 * (hi + 1) - e + 2 * ((j : Int) - n) * (hi - lo + 2)))) := Lib.hid rfl
        have H1 : Hid (∀ w, Calls Try.prog 102 #[.int .i64 n, .int .i64 (e + 2 * ((j : Int) - n) * (hi - lo + 2))] w (Ret w (.int .i64 (toZ n (e + 2 * ((j : Int) - n) * (hi - lo + 2)))))) := Lib.hid fun w => miTo_ret n _ w HN.out (by omega)
        have H2 : Hid (∀ w, Calls Try.prog 102 #[.int .i64 n, .int .i64 (2 * (hi + 1) - e + 2 * ((j : Int) - n) * (hi - lo + 2))] w (Ret w (.int .i64 (toZ n (2 * (hi + 1) - e + 2 * ((j : Int) - n) * (hi - lo + 2)))))) := Lib.hid fun w => miTo_ret n _ w HN.out (by omega)
        have b1 := toZ_bd n (e + 2 * ((j : Int) - n) * (hi - lo + 2)) n2
        have b2 := toZ_bd n (2 * (hi + 1) - e + 2 * ((j : Int) - n) * (hi - lo + 2)) n2
        have d1 : (j : Int) - n ≤ n := by omega
        generalize toZ n (e + 2 * ((j : Int) - n) * (hi - lo + 2)) = z1 at *
        generalize toZ n (2 * (hi + 1) - e + 2 * ((j : Int) - n) * (hi - lo + 2)) = z2 at *
        generalize btTo n e lo hi j = z at *
        have tok1 : True := trivial
        have hacc := hb
        clear hb
        go_wp2_with (first | (have _t := tok1; go_at_call 102; clear _t tok1; refine (H1.out _).mono ?_; rintro e w1 ⟨rfl, hb1⟩; replace hacc := hacc.trans (hb1.mono hacc.size); clear hb1) | (go_at_call 102; refine (H2.out _).mono ?_; rintro e w1 ⟨rfl, hb1⟩; replace hacc := hacc.trans (hb1.mono hacc.size); clear hb1))
        go_roundw
        case rel => exact ⟨j + 1, by omega, by go_num, by rw [HST.out], hacc⟩
        case measure => simp [intOf]; omega
      · have HJ : Hid ((2 * n + 1).toNat = j) := Lib.hid (by omega)
        have d1 : ¬ (j : Int) - n ≤ n := by omega
        go_wp2_with fail
        go_ret
        exact ⟨by rw [HJ.out]; rfl, hb⟩
  · have e1 : btZ n e lo hi = 0 := by rw [btZ, hq]; rfl
    rw [e1]
    clear e1 hn he hl hh
    go_enter Try.func107, Try.ntmps107
    go_wp2_with (go_at_call 101; refine (HI.out _).mono ?_; rintro e w' ⟨rfl, rfl⟩)
    go_ret
    exact ⟨rfl, Below.refl _ _⟩
def cbOk (a b lo hi : Int) : Bool := cntOk a b && walB lo hi
def cbV (a b lo hi : Int) : Int := if cbOk a b lo hi = true then btZ (a + b) (a - b) lo hi else 0
theorem walB_of {l h : Int} (q : walB l h = true) : (-40 ≤ l ∧ l ≤ 0) ∧ (0 ≤ h ∧ h ≤ 40) := by
  unfold walB at q
  rw [Bool.and_eq_true] at q
  exact ⟨inB_of q.1, inB_of q.2⟩
set_option maxHeartbeats 400000 in
theorem specCountBetween_ret (a b lo hi : Int) (w : World) : Calls Try.prog 58 #[.int .i64 a, .int .i64 b, .int .i64 lo, .int .i64 hi] w (Ret w (.tuple #[.int .i64 (cbV a b lo hi), .bool (cbOk a b lo hi)])) := by
  have HW := Lib.hid (miWalls_any lo hi)
  rcases Bool.eq_false_or_eq_true (cntOk a b) with hc | hc <;> rcases Bool.eq_false_or_eq_true (walB lo hi) with hw | hw
  · have e1 : cbOk a b lo hi = true := by simp [cbOk, hc, hw]
    have e2 : cbV a b lo hi = btZ (a + b) (a - b) lo hi := by rw [cbV, if_pos e1]
    obtain ⟨c1, c2, c3⟩ := cntOk_of hc
    have hww := walB_of hw
    have HC : Hid (∀ w, Calls Try.prog 107 #[.int .i64 (a + b), .int .i64 (a - b), .int .i64 lo, .int .i64 hi] w (Ret w (.int .i64 (btZ (a + b) (a - b) lo hi)))) := Lib.hid fun w => miCount_ret _ _ lo hi w (by omega) (by omega) (by omega) (by omega)
    rw [e1, e2]
    clear e1 e2
    go_enter Try.func58, Try.ntmps58
    go_wp2_with (first | (go_at_call 96; refine (steps_any a b _).mono ?_; rintro e w' ⟨rfl, rfl⟩) | (go_at_call 104; refine (HW.out _).mono ?_; rintro e w' ⟨rfl, rfl⟩) | (go_at_call 107; refine (HC.out _).mono ?_; rintro e w1 ⟨rfl, hb1⟩))
    go_ret2
    exact ⟨rfl, hb1⟩
  all_goals
    have e1 : cbOk a b lo hi = false := by simp [cbOk, hc, hw]
    have e2 : cbV a b lo hi = 0 := by rw [cbV, e1]; rfl
    rw [e1, e2]
    clear e1 e2
    go_enter Try.func58, Try.ntmps58
    go_wp2_with (first | (go_at_call 96; refine (steps_any a b _).mono ?_; rintro e w' ⟨rfl, rfl⟩) | (go_at_call 104; refine (HW.out _).mono ?_; rintro e w' ⟨rfl, rfl⟩))
    go_ret2
    exact ⟨rfl, Below.refl _ _⟩
end Go.Proofs.Ytlgiamgjimffnaa
