/- CountByRecords: the program. -/
import Derived.Test.YtnlmjeakdjmohaaPrI
import Derived.Test.YtnlmjeakdjmohaaCbhI
import Derived.Test.YtnlmjeakdjmohaaRrMath
namespace Go.Proofs.Ytnlmjeakdjmohaa
open Go.RowKit
set_option linter.unusedVariables false
theorem byRecordsI_ret (n : Int) (w : World) : Calls Try.prog 58 #[.int .i64 n] w (IntsRet w (prB n) (prL rrF n)) := by
  have HP := Lib.hid (isPairs_any n)
  have HC := Lib.hid (countByHighest_ret n)
  rcases Bool.eq_false_or_eq_true (prB n) with h | h
  · obtain ⟨m, rfl, hm⟩ := prB_of h
    have e1 : chOk (m : Int) = true := by unfold chOk inB; simp; omega
    have e2 : chV (m : Int) = fr (rrF m) (m + 1) := by rw [chV, if_pos e1, show ((m : Int) + 1).toNat = m + 1 by omega]; rfl
    rw [prL_yes _ h, h]
    rw [h] at HP
    rw [e1, e2] at HC
    go_enter Try.func58, Try.ntmps58
    go_wp2_with (first | (go_at_call 87; refine (HP.out _).mono ?_; rintro e w1 ⟨rfl, hb1⟩) | (go_at_call 101; refine (HC.out _).mono ?_; rintro e w2 ⟨v, rfl, hr, hb2⟩))
    go_ret2
    exact ⟨_, rfl, hr.mono hb1.size, hb1.trans (hb2.mono hb1.size)⟩
  · rw [prL_no _ h, h]
    rw [h] at HP
    go_enter Try.func58, Try.ntmps58
    go_wp2_with (go_at_call 87; refine (HP.out _).mono ?_; rintro e w1 ⟨rfl, hb1⟩)
    go_ret2
    exact ⟨_, rfl, IRow.nil _ _, hb1⟩
end Go.Proofs.Ytnlmjeakdjmohaa
