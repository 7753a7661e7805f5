/- The program's counts by reflections at one height: countTouching, CountTouching, CountAbove, CountHighest, CountFirstPassage. -/
import Derived.Test.YtlgiamgjimffnaaToI
import Derived.Test.YtlgiamgjimffnaaHoldI
import Derived.Test.YtlgiamgjimffnaaBetS
namespace Go.Proofs.Ytlgiamgjimffnaa
open Go.RowKit
set_option linter.unusedVariables false
set_option maxHeartbeats 400000 in
theorem countTouching_ret (a b h : Int) (w : World) (hn : 0 ≤ a ∧ 0 ≤ b ∧ a + b ≤ 40) (hh : -1000 ≤ h ∧ h ≤ 1000) : Calls Try.prog 100 #[.int .i64 a, .int .i64 b, .int .i64 h] w (Ret w (.int .i64 (tchZ (a + b) (a - b) h))) := by
  obtain ⟨a1, b1, c1⟩ := hn
  obtain ⟨h1, h2⟩ := hh
  have HW : Hid (∀ w : World, Calls Try.prog 132 #[.agg #[.int .i64 0, .int .i64 0], .slice (some ⟨w.heap.size, 0, none⟩) 1 1] (w.alloc (.cells #[.int .i64 (a - b)] 3)) fun e w' => e = .returned (.agg #[.int .i64 (min 0 (a - b)), .int .i64 (max 0 (a - b))]) ∧ Below w.heap.size w w') := Lib.hid (with_one 0 0 (a - b))
  have HO : Hid (∀ w : World, Calls Try.prog 106 #[.agg #[.int .i64 (min 0 (a - b)), .int .i64 (max 0 (a - b))], .slice (some ⟨w.heap.size, 0, none⟩) 1 1] (w.alloc (.cells #[.int .i64 h] 3)) fun e w' => e = .returned (.bool (inB h (min 0 (a - b)) (max 0 (a - b)))) ∧ Below w.heap.size w w') := Lib.hid (holds_one _ _ _)
  have H1 : Hid (∀ w, Calls Try.prog 114 #[.int .i64 (a + b), .int .i64 (a - b)] w fun e w' => e = .returned (.int .i64 (toZ (a + b) (a - b))) ∧ w = w') := Lib.hid fun w => countToEnd_ret _ _ w (by omega) (by omega)
  have H2 : Hid (∀ w, Calls Try.prog 114 #[.int .i64 (a + b), .int .i64 (2 * h - (a - b))] w fun e w' => e = .returned (.int .i64 (toZ (a + b) (2 * h - (a - b)))) ∧ w = w') := Lib.hid fun w => countToEnd_ret _ _ w (by omega) (by omega)
  have E1 : (if 0 < a - b then 0 else a - b) = min 0 (a - b) := by split <;> omega
  have E2 : (if a - b < 0 then 0 else a - b) = max 0 (a - b) := by split <;> omega
  have E : tchZ (a + b) (a - b) h = if inB h (min 0 (a - b)) (max 0 (a - b)) = true then toZ (a + b) (a - b) else toZ (a + b) (2 * h - (a - b)) := by unfold tchZ; rw [E1, E2]
  clear E1 E2
  have hacc := Below.refl w.heap.size w
  generalize min 0 (a - b) = l at *
  generalize max 0 (a - b) = m at *
  rcases Bool.eq_false_or_eq_true (inB h l m) with hi | hi
  · rw [E, if_pos hi]
    rw [hi] at HO
    clear E
    generalize toZ (a + b) (a - b) = z1 at *
    go_enter Try.func100, Try.ntmps100
    go_wp2_with (first | (go_at_call 132; refine (HW.out _).mono ?_; rintro e w1 ⟨rfl, hb1⟩; replace hacc := hacc.trans (hb1.mono hacc.size); clear hb1) | (go_at_call 106; refine (HO.out _).mono ?_; rintro e w1 ⟨rfl, hb1⟩; replace hacc := hacc.trans (hb1.mono hacc.size); clear hb1) | (go_at_call 114; refine (H1.out _).mono ?_; rintro e w' ⟨rfl, rfl⟩))
    go_ret
    exact ⟨rfl, hacc⟩
  · rw [E, if_neg (by rw [hi]; simp)]
    rw [hi] at HO
    clear E
    generalize toZ (a + b) (2 * h - (a - b)) = z1 at *
    go_enter Try.func100, Try.ntmps100
    go_wp2_with (first | (go_at_call 132; refine (HW.out _).mono ?_; rintro e w1 ⟨rfl, hb1⟩; replace hacc := hacc.trans (hb1.mono hacc.size); clear hb1) | (go_at_call 106; refine (HO.out _).mono ?_; rintro e w1 ⟨rfl, hb1⟩; replace hacc := hacc.trans (hb1.mono hacc.size); clear hb1) | (go_at_call 114; refine (H2.out _).mono ?_; rintro e w' ⟨rfl, rfl⟩))
    go_ret
    exact ⟨rfl, hacc⟩
set_option maxHeartbeats 400000 in
theorem countTouchingI_ret (a b h : Int) (w : World) : Calls Try.prog 51 #[.int .i64 a, .int .i64 b, .int .i64 h] w (Ret w (.tuple #[.int .i64 (ctoV a b h), .bool (ctoOk a b h)])) := by
  have HI : Hid (∀ w, Calls Try.prog 99 #[.int .i64 h] w (Ret w (.bool (inB h (-40) 40)))) := Lib.hid (isHeight_ret h)
  have HC : Hid (∀ w, Calls Try.prog 98 #[.int .i64 a, .int .i64 b] w fun e w' => e = .returned (.tuple #[.int .i64 (cntV a b), .bool (cntOk a b)]) ∧ w = w') := Lib.hid (count_ret a b)
  have hacc := Below.refl w.heap.size w
  rcases Bool.eq_false_or_eq_true (cntOk a b) with hc | hc <;> rcases Bool.eq_false_or_eq_true (inB h (-40) 40) with hi | hi
  · have e1 : ctoOk a b h = true := by simp [ctoOk, hc, hi]
    have e2 : ctoV a b h = tchZ (a + b) (a - b) h := by rw [ctoV, if_pos e1]
    have cc := cntOk_of hc
    have hb := inB_of hi
    have HT : Hid (∀ w, Calls Try.prog 100 #[.int .i64 a, .int .i64 b, .int .i64 h] w (Ret w (.int .i64 (tchZ (a + b) (a - b) h)))) := Lib.hid fun w => countTouching_ret _ _ _ w cc (by omega)
    rw [e1, e2]
    rw [hc] at HC
    rw [hi] at HI
    clear e1 e2
    go_enter Try.func51, Try.ntmps51
    go_wp2_with (first | (go_at_call 98; refine (HC.out _).mono ?_; rintro e w' ⟨rfl, rfl⟩) | (go_at_call 99; refine (HI.out _).mono ?_; rintro e w1 ⟨rfl, hb1⟩; replace hacc := hacc.trans (hb1.mono hacc.size); clear hb1) | (go_at_call 100; refine (HT.out _).mono ?_; rintro e w1 ⟨rfl, hb1⟩; replace hacc := hacc.trans (hb1.mono hacc.size); clear hb1))
    go_ret2
    exact ⟨rfl, hacc⟩
  all_goals
    have e1 : ctoOk a b h = false := by simp [ctoOk, hc, hi]
    have e2 : ctoV a b h = 0 := by rw [ctoV, e1]; rfl
    rw [e1, e2]
    rw [hc] at HC
    rw [hi] at HI
    clear e1 e2
    go_enter Try.func51, Try.ntmps51
    go_wp2_with (first | (go_at_call 98; refine (HC.out _).mono ?_; rintro e w' ⟨rfl, rfl⟩) | (go_at_call 99; refine (HI.out _).mono ?_; rintro e w1 ⟨rfl, hb1⟩; replace hacc := hacc.trans (hb1.mono hacc.size); clear hb1))
    go_ret2
    exact ⟨rfl, hacc⟩
set_option maxHeartbeats 400000 in
theorem countHighestI_ret (a b h : Int) (w : World) : Calls Try.prog 55 #[.int .i64 a, .int .i64 b, .int .i64 h] w (Ret w (.tuple #[.int .i64 (chiV a b h), .bool (chiOk a b h)])) := by
  have HI : Hid (∀ w, Calls Try.prog 103 #[.int .i64 0, .int .i64 h] w (Ret w (.bool (inB h 0 40)))) := Lib.hid fun w => by
    have := areWalls_ret 0 h w
    have e : inB 0 (-40) 0 = true := by decide
    rw [e, Bool.true_and] at this
    exact this
  have HC : Hid (∀ w, Calls Try.prog 98 #[.int .i64 a, .int .i64 b] w fun e w' => e = .returned (.tuple #[.int .i64 (cntV a b), .bool (cntOk a b)]) ∧ w = w') := Lib.hid (count_ret a b)
  have hacc := Below.refl w.heap.size w
  rcases Bool.eq_false_or_eq_true (cntOk a b) with hc | hc <;> rcases Bool.eq_false_or_eq_true (inB h 0 40) with hi | hi
  · have e1 : chiOk a b h = true := by simp [chiOk, hc, hi]
    have e2 : chiV a b h = tchZ (a + b) (a - b) h - tchZ (a + b) (a - b) (h + 1) := by rw [chiV, if_pos e1]
    have cc := cntOk_of hc
    have hb := inB_of hi
    have HT : Hid (∀ w, Calls Try.prog 100 #[.int .i64 a, .int .i64 b, .int .i64 h] w (Ret w (.int .i64 (tchZ (a + b) (a - b) h)))) := Lib.hid fun w => countTouching_ret _ _ _ w cc (by omega)
    have HU : Hid (∀ w, Calls Try.prog 100 #[.int .i64 a, .int .i64 b, .int .i64 (h + 1)] w (Ret w (.int .i64 (tchZ (a + b) (a - b) (h + 1))))) := Lib.hid fun w => countTouching_ret _ _ _ w cc (by omega)
    have b1 := tchZ_bd (a + b) (a - b) h cc.2.2
    have b2 := tchZ_bd (a + b) (a - b) (h + 1) cc.2.2
    rw [e1, e2]
    rw [hc] at HC
    rw [hi] at HI
    clear e1 e2
    generalize tchZ (a + b) (a - b) h = z1 at *
    generalize tchZ (a + b) (a - b) (h + 1) = z2 at *
    have tok1 : True := trivial
    go_enter Try.func55, Try.ntmps55
    go_wp2_with (first | (go_at_call 98; refine (HC.out _).mono ?_; rintro e w' ⟨rfl, rfl⟩) | (go_at_call 103; refine (HI.out _).mono ?_; rintro e w1 ⟨rfl, hb1⟩; replace hacc := hacc.trans (hb1.mono hacc.size); clear hb1) | (have _t := tok1; go_at_call 100; clear _t tok1; refine (HT.out _).mono ?_; rintro e w1 ⟨rfl, hb1⟩; replace hacc := hacc.trans (hb1.mono hacc.size); clear hb1) | (go_at_call 100; refine (HU.out _).mono ?_; rintro e w1 ⟨rfl, hb1⟩; replace hacc := hacc.trans (hb1.mono hacc.size); clear hb1))
    go_ret2
    exact ⟨rfl, hacc⟩
  all_goals
    have e1 : chiOk a b h = false := by simp [chiOk, hc, hi]
    have e2 : chiV a b h = 0 := by rw [chiV, e1]; rfl
    rw [e1, e2]
    rw [hc] at HC
    rw [hi] at HI
    clear e1 e2
    go_enter Try.func55, Try.ntmps55
    go_wp2_with (first | (go_at_call 98; refine (HC.out _).mono ?_; rintro e w' ⟨rfl, rfl⟩) | (go_at_call 103; refine (HI.out _).mono ?_; rintro e w1 ⟨rfl, hb1⟩; replace hacc := hacc.trans (hb1.mono hacc.size); clear hb1))
    go_ret2
    exact ⟨rfl, hacc⟩
theorem cntV_toZ {a b : Int} (h : 0 ≤ a ∧ 0 ≤ b ∧ a + b ≤ 40) : cntV a b = toZ (a + b) (a - b) := by
  have e := toZ_cntV (n := a + b) (h := a - b) (by omega) (by omega) (by omega)
  rw [show a + b + (a - b) = 2 * a by omega, show a + b - (a - b) = 2 * b by omega, Int.mul_tdiv_cancel_left _ (by omega), Int.mul_tdiv_cancel_left _ (by omega)] at e
  exact e
set_option maxHeartbeats 400000 in
theorem countAboveI_ret (a b h : Int) (w : World) : Calls Try.prog 53 #[.int .i64 a, .int .i64 b, .int .i64 h] w (Ret w (.tuple #[.int .i64 (cabV a b h), .bool (cabOk a b h)])) := by
  have HI : Hid (∀ w, Calls Try.prog 103 #[.int .i64 h, .int .i64 0] w (Ret w (.bool (inB h (-40) 0)))) := Lib.hid fun w => by
    have := areWalls_ret h 0 w
    have e : inB 0 0 40 = true := by decide
    rw [e, Bool.and_true] at this
    exact this
  have HC : Hid (∀ w, Calls Try.prog 98 #[.int .i64 a, .int .i64 b] w fun e w' => e = .returned (.tuple #[.int .i64 (cntV a b), .bool (cntOk a b)]) ∧ w = w') := Lib.hid (count_ret a b)
  have hacc := Below.refl w.heap.size w
  rcases Bool.eq_false_or_eq_true (cntOk a b) with hc | hc <;> rcases Bool.eq_false_or_eq_true (inB h (-40) 0) with hi | hi
  · have e1 : cabOk a b h = true := by simp [cabOk, hc, hi]
    have cc := cntOk_of hc
    have e2 : cabV a b h = cntV a b - tchZ (a + b) (a - b) (h - 1) := by rw [cabV, if_pos e1, cntV_toZ cc]
    have hb := inB_of hi
    have HU : Hid (∀ w, Calls Try.prog 100 #[.int .i64 a, .int .i64 b, .int .i64 (h - 1)] w (Ret w (.int .i64 (tchZ (a + b) (a - b) (h - 1))))) := Lib.hid fun w => countTouching_ret _ _ _ w cc (by omega)
    have b1 := cntV_bd a b
    have b2 := tchZ_bd (a + b) (a - b) (h - 1) cc.2.2
    rw [e1, e2]
    rw [hc] at HC
    rw [hi] at HI
    clear e1 e2
    generalize cntV a b = z1 at *
    generalize tchZ (a + b) (a - b) (h - 1) = z2 at *
    go_enter Try.func53, Try.ntmps53
    go_wp2_with (first | (go_at_call 98; refine (HC.out _).mono ?_; rintro e w' ⟨rfl, rfl⟩) | (go_at_call 103; refine (HI.out _).mono ?_; rintro e w1 ⟨rfl, hb1⟩; replace hacc := hacc.trans (hb1.mono hacc.size); clear hb1) | (go_at_call 100; refine (HU.out _).mono ?_; rintro e w1 ⟨rfl, hb1⟩; replace hacc := hacc.trans (hb1.mono hacc.size); clear hb1))
    go_ret2
    exact ⟨rfl, hacc⟩
  all_goals
    have e1 : cabOk a b h = false := by simp [cabOk, hc, hi]
    have e2 : cabV a b h = 0 := by rw [cabV, e1]; rfl
    rw [e1, e2]
    rw [hc] at HC
    rw [hi] at HI
    clear e1 e2
    go_enter Try.func53, Try.ntmps53
    go_wp2_with (first | (go_at_call 98; refine (HC.out _).mono ?_; rintro e w' ⟨rfl, rfl⟩) | (go_at_call 103; refine (HI.out _).mono ?_; rintro e w1 ⟨rfl, hb1⟩; replace hacc := hacc.trans (hb1.mono hacc.size); clear hb1))
    go_ret2
    exact ⟨rfl, hacc⟩
set_option maxHeartbeats 400000 in
theorem firstPassageI_ret (n h : Int) (w : World) : Calls Try.prog 70 #[.int .i64 n, .int .i64 h] w (Ret w (.tuple #[.int .i64 (fpV n h), .bool (fpOk n h)])) := by
  have HI : Hid (∀ w, Calls Try.prog 99 #[.int .i64 h] w (Ret w (.bool (inB h (-40) 40)))) := Lib.hid (isHeight_ret h)
  have hacc := Below.refl w.heap.size w
  by_cases n1 : 1 ≤ n
  case neg =>
    have e1 : fpOk n h = false := by have : inB n 1 40 = false := by { unfold inB; simp; omega }; simp [fpOk, this]
    have e2 : fpV n h = 0 := by rw [fpV, e1]; rfl
    rw [e1, e2]
    clear e1 e2
    go_enter Try.func70, Try.ntmps70
    go_wp2
    go_ret2
    exact ⟨rfl, hacc⟩
  by_cases n2 : n ≤ 40
  case neg =>
    have e1 : fpOk n h = false := by have : inB n 1 40 = false := by { unfold inB; simp; omega }; simp [fpOk, this]
    have e2 : fpV n h = 0 := by rw [fpV, e1]; rfl
    rw [e1, e2]
    clear e1 e2
    go_enter Try.func70, Try.ntmps70
    go_wp2
    go_ret2
    exact ⟨rfl, hacc⟩
  by_cases h0 : h = 0
  · subst h0
    have e1 : fpOk n 0 = false := by simp [fpOk]
    have e2 : fpV n 0 = 0 := by rw [fpV, e1]; rfl
    rw [e1, e2]
    clear e1 e2
    go_enter Try.func70, Try.ntmps70
    go_wp2
    go_ret2
    exact ⟨rfl, hacc⟩
  have q0 : (h == 0) = false := beq_eq_false_iff_ne.2 h0
  rcases Bool.eq_false_or_eq_true (inB h (-40) 40) with hi | hi
  case inr =>
    have e1 : fpOk n h = false := by simp [fpOk, hi]
    have e2 : fpV n h = 0 := by rw [fpV, e1]; rfl
    rw [e1, e2]
    rw [hi] at HI
    clear e1 e2
    go_enter Try.func70, Try.ntmps70
    go_wp2_with (go_at_call 99; refine (HI.out _).mono ?_; rintro e w1 ⟨rfl, hb1⟩; replace hacc := hacc.trans (hb1.mono hacc.size); clear hb1)
    go_ret2
    exact ⟨rfl, hacc⟩
  have hn : inB n 1 40 = true := by unfold inB; simp; omega
  have e1 : fpOk n h = true := by simp [fpOk, hn, hi, h0]
  have e0 : (if h < -h then -h else h) = max h (-h) := by split <;> omega
  have e2 : fpV n h = (toZ n h * max h (-h)).tdiv n := by rw [fpV, if_pos e1, e0]
  obtain ⟨g1, g2⟩ := inB_of hi
  have HT : Hid (∀ w, Calls Try.prog 114 #[.int .i64 n, .int .i64 h] w fun e w' => e = .returned (.int .i64 (toZ n h)) ∧ w = w') := Lib.hid fun w => countToEnd_ret n h w (by omega) (by omega)
  have b1 := toZ_bd n h n2
  have b2 : 0 ≤ max h (-h) ∧ max h (-h) ≤ 40 := by omega
  have hne : ¬ n = 0 := by omega
  rw [e1, e2]
  rw [hi] at HI
  clear e1 e2 e0
  obtain ⟨z, hzz⟩ : ∃ z, z = max h (-h) := ⟨_, rfl⟩
  rw [← hzz] at b2 ⊢
  generalize toZ n h = t at *
  obtain ⟨b3, b4⟩ := b1
  obtain ⟨b5, b6⟩ := b2
  have b7 : 0 ≤ t * z := Int.mul_nonneg b3 b5
  have b8 : t * z ≤ 1099511627776 * 40 := Int.mul_le_mul b4 b6 b5 (by omega)
  have b9 := Int.tdiv_eq_ediv_of_nonneg (b := n) b7
  have b10 : 0 ≤ (t * z).tdiv n := by rw [b9]; exact Int.ediv_nonneg b7 (by omega)
  have b11 : (t * z).tdiv n ≤ 1099511627776 * 40 := by rw [b9]; exact Int.le_trans (Int.ediv_le_self _ b7) b8
  clear b9
  have HZ := Lib.hid hzz
  rw [hzz] at b5 b6 b7 b8 b10 b11 ⊢
  clear hzz
  go_enter Try.func70, Try.ntmps70
  go_wp2_with (first | (go_at_call 99; refine (HI.out _).mono ?_; rintro e w1 ⟨rfl, hb1⟩; replace hacc := hacc.trans (hb1.mono hacc.size); clear hb1) | (go_at_call 114; refine (HT.out _).mono ?_; rintro e w' ⟨rfl, rfl⟩))
  go_ret2
  exact ⟨rfl, hacc⟩
end Go.Proofs.Ytlgiamgjimffnaa
