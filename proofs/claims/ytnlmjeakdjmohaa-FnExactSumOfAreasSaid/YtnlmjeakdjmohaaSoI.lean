/- SumOfAreas: the program. -/
import Derived.Test.YtnlmjeakdjmohaaPrI
import Derived.Test.YtnlmjeakdjmohaaChoose
import Derived.Test.YtnlmjeakdjmohaaAreaC
import Derived.Test.YtnlmjeakdjmohaaTieMath
namespace Go.Proofs.Ytnlmjeakdjmohaa
open Go.RowKit
set_option linter.unusedVariables false
def chkMid (m : Nat) : Bool := pAt (2 * m + 1) m == mids.getD m 0
theorem chkMid_all : ((List.range 16).all chkMid) = true := by decide +kernel
theorem mid_chs {m : Nat} (hm : m ≤ 15) : chs (2 * m + 1) m = mids.getD m 0 := by
  have h := all_range chkMid_all (show m < 16 by omega)
  unfold chkMid at h
  rw [chs_tab _ _ (by omega) (by omega)]
  exact beq_iff_eq.1 h
theorem so_eq {m : Nat} (hm : m ≤ 15) : soF m = (4 : Int) ^ m - ((chs (2 * m + 1) m : Nat) : Int) := by
  have h := so_form hm
  rw [mid_chs hm]
  unfold soF
  omega
set_option maxHeartbeats 400000 in
theorem sumAreasI_ret (n : Int) (w : World) : Calls Try.prog 52 #[.int .i64 n] w (Ret w (.tuple #[.int .i64 (prZ soF n), .bool (prB n)])) := by
  have HP := Lib.hid (isPairs_any n)
  rcases Bool.eq_false_or_eq_true (prB n) with h | h
  · obtain ⟨m, rfl, hm⟩ := prB_of h
    have HC : Hid (∀ w, Calls Try.prog 88 #[.int .i64 (m : Int), .int .i64 ((m : Int) + 1)] w fun e w' => e = .returned (.tuple #[.int .i64 ((chs (2 * m + 1) m : Nat) : Int), .bool true]) ∧ w = w') := Lib.hid fun w => by
      have := count_yes m (m + 1) w (by omega)
      rwa [show m + 1 + m = 2 * m + 1 by omega, show ((m + 1 : Nat) : Int) = (m : Int) + 1 by omega] at this
    have HW : Hid (∀ w, Calls Try.prog 97 #[.int .i64 4, .int .i64 (m : Int)] w fun e w' => e = .returned (.int .i64 ((4 : Int) ^ m)) ∧ w = w') := Lib.hid fun w => powerN_any 4 m w (by omega) (by omega)
    have b1 := chs_small40 (2 * m + 1) m (by omega)
    have b2 : 0 ≤ (4 : Int) ^ m ∧ (4 : Int) ^ m ≤ 1073741824 := by
      have h3 : (4 : Nat) ^ m ≤ 4 ^ 15 := Nat.pow_le_pow_right (by omega) hm
      have h4 : ((4 ^ m : Nat) : Int) ≤ ((4 ^ 15 : Nat) : Int) := Int.ofNat_le.2 h3
      have h5 : ((4 ^ m : Nat) : Int) = (4 : Int) ^ m := by simp
      have h6 := Int.natCast_nonneg (4 ^ m)
      rw [h5] at h4 h6
      exact ⟨h6, by simpa using h4⟩
    have HE := Lib.hid (so_eq hm)
    rw [prZ_yes _ h, h, HE.out]
    rw [h] at HP
    clear HE
    generalize (4 : Int) ^ m = p at *
    generalize chs (2 * m + 1) m = c at *
    go_enter Try.func52, Try.ntmps52
    go_wp2_with (first | (go_at_call 87; refine (HP.out _).mono ?_; rintro e w1 ⟨rfl, hb1⟩) | (go_at_call 88; refine (HC.out _).mono ?_; rintro e w2 ⟨rfl, rfl⟩) | (go_at_call 97; refine (HW.out _).mono ?_; rintro e w2 ⟨rfl, rfl⟩))
    go_ret2
    exact ⟨rfl, hb1⟩
  · rw [prZ_no _ h, h]
    rw [h] at HP
    go_enter Try.func52, Try.ntmps52
    go_wp2_with (go_at_call 87; refine (HP.out _).mono ?_; rintro e w1 ⟨rfl, hb1⟩)
    go_ret2
    exact ⟨rfl, hb1⟩
end Go.Proofs.Ytnlmjeakdjmohaa
