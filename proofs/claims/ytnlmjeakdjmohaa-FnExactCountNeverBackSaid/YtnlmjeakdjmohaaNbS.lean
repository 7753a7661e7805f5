/- CountNeverBack, CountGoodClosed: both sides. -/
import Derived.Test.YtnlmjeakdjmohaaPrI
import Derived.Test.YtnlmjeakdjmohaaChoose
import Derived.Test.YtnlmjeakdjmohaaBalCount
namespace Go.Proofs.Ytnlmjeakdjmohaa
open Go.RowKit
set_option linter.unusedVariables false
def nbF (m : Nat) : Int := ((chs (2 * m) m : Nat) : Int)
def gcF (m : Nat) : Int := ((chs (2 * m) m / (m + 1) : Nat) : Int)
theorem neverBackI_ret (n : Int) (w : World) : Calls Try.prog 68 #[.int .i64 n] w (Ret w (.tuple #[.int .i64 (prZ nbF n), .bool (prB n)])) := by
  have HP := Lib.hid (isPairs_any n)
  rcases Bool.eq_false_or_eq_true (prB n) with h | h
  · obtain ⟨m, rfl, hm⟩ := prB_of h
    have HC := Lib.hid (count_ret (m : Int) (m : Int))
    rw [cntOk_yes (by omega), cntV_yes (by omega)] at HC
    rw [prZ_yes _ h, h]
    rw [h] at HP
    unfold nbF
    rw [show 2 * m = m + m by omega]
    generalize ((chs (m + m) m : Nat) : Int) = c at *
    go_enter Try.func68, Try.ntmps68
    go_wp2_with (first | (go_at_call 87; refine (HP.out _).mono ?_; rintro e w1 ⟨rfl, hb1⟩) | (go_at_call 88; refine (HC.out _).mono ?_; rintro e w2 ⟨rfl, rfl⟩))
    go_ret2
    exact ⟨rfl, hb1⟩
  · rw [prZ_no _ h, h]
    rw [h] at HP
    go_enter Try.func68, Try.ntmps68
    go_wp2_with (go_at_call 87; refine (HP.out _).mono ?_; rintro e w1 ⟨rfl, hb1⟩)
    go_ret2
    exact ⟨rfl, hb1⟩
theorem specNeverBack_ret (n : Int) (w : World) : Calls Try.prog 67 #[.int .i64 n] w (Ret w (.tuple #[.int .i64 (prZ nbF n), .bool (prB n)])) := by
  have HG := Lib.hid (reGood_any n)
  rcases Bool.eq_false_or_eq_true (prB n) with h | h
  · obtain ⟨m, rfl, hm⟩ := prB_of h
    have HC := Lib.hid (fun w => choose_ret (2 * (m : Int)) (m : Int) w (by omega))
    rw [show (2 * (m : Int)) = ((2 * m : Nat) : Int) by omega, chZ_nat] at HC
    rw [show ((2 * m : Nat) : Int) = 2 * (m : Int) by omega] at HC
    rw [prZ_yes _ h, h]
    rw [h] at HG
    unfold nbF
    generalize ((chs (2 * m) m : Nat) : Int) = c at *
    go_enter Try.func67, Try.ntmps67
    go_wp2_with (first | (go_at_call 85; refine (HG.out _).mono ?_; rintro e w1 ⟨rfl, rfl⟩) | (go_at_call 86; refine (HC.out _).mono ?_; rintro e w2 ⟨rfl, hb2⟩))
    go_ret2
    exact ⟨rfl, hb2⟩
  · rw [prZ_no _ h, h]
    rw [h] at HG
    go_enter Try.func67, Try.ntmps67
    go_wp2_with (go_at_call 85; refine (HG.out _).mono ?_; rintro e w1 ⟨rfl, rfl⟩)
    go_ret2
    exact ⟨rfl, Below.refl _ _⟩
theorem never_gc {m : Nat} (hm : m ≤ 15) : neverV m m 1 = gcF m ∧ allOk m m 1 = true := by
  have h1 : allOk m m 1 = true := Asked.ok (a := m) (b := m) (k := 1) (by constructor <;> omega)
  refine ⟨?_, h1⟩
  rw [neverV_yes h1, neverN_2 (by omega), cntV_yes (by omega)]
  unfold gcF
  rw [show (m : Int) + 1 - 1 * (m : Int) = 1 by omega, Int.mul_one, Int.natCast_ediv, show 2 * m = m + m by omega]
  rfl
theorem goodClosedI_ret (n : Int) (w : World) : Calls Try.prog 50 #[.int .i64 n] w (Ret w (.tuple #[.int .i64 (prZ gcF n), .bool (prB n)])) := by
  have HP := Lib.hid (isPairs_any n)
  rcases Bool.eq_false_or_eq_true (prB n) with h | h
  · obtain ⟨m, rfl, hm⟩ := prB_of h
    have HC := Lib.hid (countNever_any (m : Int) (m : Int) 1)
    rw [(never_gc hm).1, (never_gc hm).2] at HC
    rw [prZ_yes _ h, h]
    rw [h] at HP
    generalize gcF m = c at *
    go_enter Try.func50, Try.ntmps50
    go_wp2_with (first | (go_at_call 87; refine (HP.out _).mono ?_; rintro e w1 ⟨rfl, hb1⟩) | (go_at_call 96; refine (HC.out _).mono ?_; rintro e w2 ⟨rfl, rfl⟩))
    go_ret2
    exact ⟨rfl, hb1⟩
  · rw [prZ_no _ h, h]
    rw [h] at HP
    go_enter Try.func50, Try.ntmps50
    go_wp2_with (go_at_call 87; refine (HP.out _).mono ?_; rintro e w1 ⟨rfl, hb1⟩)
    go_ret2
    exact ⟨rfl, hb1⟩
theorem reCatalan_any (m : Nat) (w : World) (hm : m ≤ 15) : Calls Try.prog 95 #[.int .i64 (m : Int)] w (Ret w (.int .i64 (gcF m))) := by
  have HC := Lib.hid (fun w => choose_ret (2 * (m : Int)) (m : Int) w (by omega))
  rw [show (2 * (m : Int)) = ((2 * m : Nat) : Int) by omega, chZ_nat] at HC
  rw [show ((2 * m : Nat) : Int) = 2 * (m : Int) by omega] at HC
  have hc := chs_small40 (2 * m) m (by omega)
  have HD : Hid (gcF m = ((chs (2 * m) m : Nat) : Int) / ((m : Int) + 1)) := Lib.hid (by unfold gcF; rw [Int.natCast_ediv]; rfl)
  rw [HD.out]
  clear HD
  generalize chs (2 * m) m = c at *
  have m3 : (0 : Int) < (m : Int) + 1 := by omega
  have m4 : (0 : Int) ≤ (c : Int) := by omega
  have m5 := Int.ediv_nonneg m4 (show (0 : Int) ≤ (m : Int) + 1 by omega)
  have m6 := Int.ediv_le_self ((m : Int) + 1) m4
  go_enter Try.func95, Try.ntmps95
  go_wp2_with (go_at_call 86; refine (HC.out _).mono ?_; rintro e w2 ⟨rfl, hb2⟩)
  go_ret
  exact ⟨rfl, hb2⟩
theorem specGoodClosed_ret (n : Int) (w : World) : Calls Try.prog 49 #[.int .i64 n] w (Ret w (.tuple #[.int .i64 (prZ gcF n), .bool (prB n)])) := by
  have HG := Lib.hid (reGood_any n)
  rcases Bool.eq_false_or_eq_true (prB n) with h | h
  · obtain ⟨m, rfl, hm⟩ := prB_of h
    have HC := Lib.hid (fun w => reCatalan_any m w hm)
    rw [prZ_yes _ h, h]
    rw [h] at HG
    generalize gcF m = c at *
    go_enter Try.func49, Try.ntmps49
    go_wp2_with (first | (go_at_call 85; refine (HG.out _).mono ?_; rintro e w1 ⟨rfl, rfl⟩) | (go_at_call 95; refine (HC.out _).mono ?_; rintro e w2 ⟨rfl, hb2⟩))
    go_ret2
    exact ⟨rfl, hb2⟩
  · rw [prZ_no _ h, h]
    rw [h] at HG
    go_enter Try.func49, Try.ntmps49
    go_wp2_with (go_at_call 85; refine (HG.out _).mono ?_; rintro e w1 ⟨rfl, rfl⟩)
    go_ret2
    exact ⟨rfl, Below.refl _ _⟩
end Go.Proofs.Ytnlmjeakdjmohaa
