/- The model's CountTouching, CountAbove, CountHighest, CountFirstPassage; miWalls. -/
import Derived.Test.YtlgiamgjimffnaaToS
import Derived.Test.YtlgiamgjimffnaaTchS
namespace Go.Proofs.Ytlgiamgjimffnaa
open Go.RowKit
set_option linter.unusedVariables false
theorem cntOk_of {u d : Int} (h : cntOk u d = true) : 0 ≤ u ∧ 0 ≤ d ∧ u + d ≤ 40 := by
  unfold cntOk at h
  simp only [Bool.and_eq_true, decide_eq_true_eq] at h
  omega
theorem inB_of {a lo hi : Int} (h : inB a lo hi = true) : lo ≤ a ∧ a ≤ hi := by
  unfold inB at h
  simpa only [Bool.and_eq_true, decide_eq_true_eq] using h
/-! ### CountTouching -/
def ctoOk (a b h : Int) : Bool := cntOk a b && inB h (-40) 40
def ctoV (a b h : Int) : Int := if ctoOk a b h = true then tchZ (a + b) (a - b) h else 0
set_option maxHeartbeats 400000 in
theorem specCountTouching_ret (a b h : Int) (w : World) : Calls Try.prog 50 #[.int .i64 a, .int .i64 b, .int .i64 h] w (Ret w (.tuple #[.int .i64 (ctoV a b h), .bool (ctoOk a b h)])) := by
  rcases Bool.eq_false_or_eq_true (cntOk a b) with hc | hc <;> rcases Bool.eq_false_or_eq_true (inB h (-40) 40) with hi | hi
  · have e1 : ctoOk a b h = true := by simp [ctoOk, hc, hi]
    have e2 : ctoV a b h = tchZ (a + b) (a - b) h := by rw [ctoV, if_pos e1]
    obtain ⟨c1, c2, c3⟩ := cntOk_of hc
    have hb := inB_of hi
    have HT : Hid (∀ w, Calls Try.prog 97 #[.int .i64 (a + b), .int .i64 (a - b), .int .i64 h] w (Ret w (.int .i64 (tchZ (a + b) (a - b) h)))) := Lib.hid fun w => miTouching_ret _ _ _ w (by omega) (by omega) (by omega)
    rw [e1, e2]
    clear e1 e2
    go_enter Try.func50, Try.ntmps50
    go_wp2_with (first | (go_at_call 96; refine (steps_any a b _).mono ?_; rintro e w' ⟨rfl, rfl⟩) | (go_at_call 86; refine (miHeight_any h _).mono ?_; rintro e w' ⟨rfl, rfl⟩) | (go_at_call 97; refine (HT.out _).mono ?_; rintro e w1 ⟨rfl, hb1⟩))
    go_ret2
    exact ⟨rfl, hb1⟩
  all_goals
    have e1 : ctoOk a b h = false := by simp [ctoOk, hc, hi]
    have e2 : ctoV a b h = 0 := by rw [ctoV, e1]; rfl
    rw [e1, e2]
    clear e1 e2
    go_enter Try.func50, Try.ntmps50
    go_wp2_with (first | (go_at_call 96; refine (steps_any a b _).mono ?_; rintro e w' ⟨rfl, rfl⟩) | (go_at_call 86; refine (miHeight_any h _).mono ?_; rintro e w' ⟨rfl, rfl⟩))
    go_ret2
    exact ⟨rfl, Below.refl _ _⟩
/-! ### CountHighest -/
def chiOk (a b h : Int) : Bool := cntOk a b && inB h 0 40
def chiV (a b h : Int) : Int := if chiOk a b h = true then tchZ (a + b) (a - b) h - tchZ (a + b) (a - b) (h + 1) else 0
set_option maxHeartbeats 400000 in
theorem specCountHighest_ret (a b h : Int) (w : World) : Calls Try.prog 54 #[.int .i64 a, .int .i64 b, .int .i64 h] w (Ret w (.tuple #[.int .i64 (chiV a b h), .bool (chiOk a b h)])) := by
  have HI := Lib.hid (in_any h 0 40)
  rcases Bool.eq_false_or_eq_true (cntOk a b) with hc | hc <;> rcases Bool.eq_false_or_eq_true (inB h 0 40) with hi | hi
  · have e1 : chiOk a b h = true := by simp [chiOk, hc, hi]
    have e2 : chiV a b h = tchZ (a + b) (a - b) h - tchZ (a + b) (a - b) (h + 1) := by rw [chiV, if_pos e1]
    obtain ⟨c1, c2, c3⟩ := cntOk_of hc
    have hb := inB_of hi
    have HT : Hid (∀ w, Calls Try.prog 97 #[.int .i64 (a + b), .int .i64 (a - b), .int .i64 h] w (Ret w (.int .i64 (tchZ (a + b) (a - b) h)))) := Lib.hid fun w => miTouching_ret _ _ _ w (by omega) (by omega) (by omega)
    have HU : Hid (∀ w, Calls Try.prog 97 #[.int .i64 (a + b), .int .i64 (a - b), .int .i64 (h + 1)] w (Ret w (.int .i64 (tchZ (a + b) (a - b) (h + 1))))) := Lib.hid fun w => miTouching_ret _ _ _ w (by omega) (by omega) (by omega)
    have b1 := tchZ_bd (a + b) (a - b) h c3
    have b2 := tchZ_bd (a + b) (a - b) (h + 1) c3
    rw [e1, e2]
    clear e1 e2
    generalize tchZ (a + b) (a - b) h = z1 at *
    generalize tchZ (a + b) (a - b) (h + 1) = z2 at *
    have hacc := Below.refl w.heap.size w
    have tok1 : True := trivial
    go_enter Try.func54, Try.ntmps54
    go_wp2_with (first | (go_at_call 96; refine (steps_any a b _).mono ?_; rintro e w' ⟨rfl, rfl⟩) | (go_at_call 101; refine (HI.out _).mono ?_; rintro e w' ⟨rfl, rfl⟩) | (have _t := tok1; go_at_call 97; clear _t tok1; refine (HT.out _).mono ?_; rintro e w1 ⟨rfl, hb1⟩; replace hacc := hacc.trans (hb1.mono hacc.size); clear hb1) | (go_at_call 97; refine (HU.out _).mono ?_; rintro e w1 ⟨rfl, hb1⟩; replace hacc := hacc.trans (hb1.mono hacc.size); clear hb1))
    go_ret2
    exact ⟨rfl, hacc⟩
  all_goals
    have e1 : chiOk a b h = false := by simp [chiOk, hc, hi]
    have e2 : chiV a b h = 0 := by rw [chiV, e1]; rfl
    rw [e1, e2]
    clear e1 e2
    go_enter Try.func54, Try.ntmps54
    go_wp2_with (first | (go_at_call 96; refine (steps_any a b _).mono ?_; rintro e w' ⟨rfl, rfl⟩) | (go_at_call 101; refine (HI.out _).mono ?_; rintro e w' ⟨rfl, rfl⟩))
    go_ret2
    exact ⟨rfl, Below.refl _ _⟩
/-! ### CountAbove -/
def cabOk (a b h : Int) : Bool := cntOk a b && inB h (-40) 0
def cabV (a b h : Int) : Int := if cabOk a b h = true then toZ (a + b) (a - b) - tchZ (a + b) (a - b) (h - 1) else 0
set_option maxHeartbeats 400000 in
theorem specCountAbove_ret (a b h : Int) (w : World) : Calls Try.prog 52 #[.int .i64 a, .int .i64 b, .int .i64 h] w (Ret w (.tuple #[.int .i64 (cabV a b h), .bool (cabOk a b h)])) := by
  have HI := Lib.hid (in_any h (-40) 0)
  rcases Bool.eq_false_or_eq_true (cntOk a b) with hc | hc <;> rcases Bool.eq_false_or_eq_true (inB h (-40) 0) with hi | hi
  · have e1 : cabOk a b h = true := by simp [cabOk, hc, hi]
    have e2 : cabV a b h = toZ (a + b) (a - b) - tchZ (a + b) (a - b) (h - 1) := by rw [cabV, if_pos e1]
    obtain ⟨c1, c2, c3⟩ := cntOk_of hc
    have hb := inB_of hi
    have HT : Hid (∀ w, Calls Try.prog 102 #[.int .i64 (a + b), .int .i64 (a - b)] w (Ret w (.int .i64 (toZ (a + b) (a - b))))) := Lib.hid fun w => miTo_ret _ _ w (by omega) (by omega)
    have HU : Hid (∀ w, Calls Try.prog 97 #[.int .i64 (a + b), .int .i64 (a - b), .int .i64 (h - 1)] w (Ret w (.int .i64 (tchZ (a + b) (a - b) (h - 1))))) := Lib.hid fun w => miTouching_ret _ _ _ w (by omega) (by omega) (by omega)
    have b1 := toZ_bd (a + b) (a - b) c3
    have b2 := tchZ_bd (a + b) (a - b) (h - 1) c3
    rw [e1, e2]
    clear e1 e2
    generalize toZ (a + b) (a - b) = z1 at *
    generalize tchZ (a + b) (a - b) (h - 1) = z2 at *
    have hacc := Below.refl w.heap.size w
    go_enter Try.func52, Try.ntmps52
    go_wp2_with (first | (go_at_call 96; refine (steps_any a b _).mono ?_; rintro e w' ⟨rfl, rfl⟩) | (go_at_call 101; refine (HI.out _).mono ?_; rintro e w' ⟨rfl, rfl⟩) | (go_at_call 102; refine (HT.out _).mono ?_; rintro e w1 ⟨rfl, hb1⟩; replace hacc := hacc.trans (hb1.mono hacc.size); clear hb1) | (go_at_call 97; refine (HU.out _).mono ?_; rintro e w1 ⟨rfl, hb1⟩; replace hacc := hacc.trans (hb1.mono hacc.size); clear hb1))
    go_ret2
    exact ⟨rfl, hacc⟩
  all_goals
    have e1 : cabOk a b h = false := by simp [cabOk, hc, hi]
    have e2 : cabV a b h = 0 := by rw [cabV, e1]; rfl
    rw [e1, e2]
    clear e1 e2
    go_enter Try.func52, Try.ntmps52
    go_wp2_with (first | (go_at_call 96; refine (steps_any a b _).mono ?_; rintro e w' ⟨rfl, rfl⟩) | (go_at_call 101; refine (HI.out _).mono ?_; rintro e w' ⟨rfl, rfl⟩))
    go_ret2
    exact ⟨rfl, Below.refl _ _⟩
/-! ### walls -/
def walB (l h : Int) : Bool := inB l (-40) 0 && inB h 0 40
theorem miWalls_any (l h : Int) (w : World) : Calls Try.prog 104 #[.int .i64 l, .int .i64 h] w fun e w' => e = .returned (.bool (walB l h)) ∧ w = w' := by
  have HL := Lib.hid (in_any l (-40) 0)
  have HH := Lib.hid (in_any h 0 40)
  unfold walB
  rcases Bool.eq_false_or_eq_true (inB l (-40) 0) with hl | hl
  all_goals
    rw [hl]
    have tok1 : True := trivial
    go_enter Try.func104, Try.ntmps104
    go_wp2_with (first | (have _t := tok1; go_at_call 101; clear _t tok1; refine (HL.out _).mono ?_; rintro e w' ⟨rfl, rfl⟩) | (go_at_call 101; refine (HH.out _).mono ?_; rintro e w' ⟨rfl, rfl⟩))
    go_ret
    exact ⟨by simp, rfl⟩
end Go.Proofs.Ytlgiamgjimffnaa
