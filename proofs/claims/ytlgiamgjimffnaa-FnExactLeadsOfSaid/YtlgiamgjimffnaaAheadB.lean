/- IsAhead, IsNeverBehind, FirstNotAhead, FirstBehind: the first step that is too low. -/
import Derived.Test.YtlgiamgjimffnaaLeads
namespace Go.Proofs.Ytlgiamgjimffnaa
open Go.RowKit

theorem mgsV_fr (s : ByteArray) (k : Int) : mgsV s k = fr (mg s k) (if balOk s k then s.size + 1 else 0) := by
  unfold mgsV mgs
  split <;> rfl
/-- how many margins there are -/
def mgN (s : ByteArray) (k : Int) : Nat := if balOk s k then s.size + 1 else 0
theorem mgN_le (s : ByteArray) (k : Int) : mgN s k ≤ 41 := by
  unfold mgN
  split
  · rename_i h
    have := ((pathB_iff s).1 (balOk_of h).1).1
    omega
  · omega
def fbOf (s : ByteArray) (k least : Int) : Int := fb (mg s k) least (mgN s k)
def noneB (s : ByteArray) (k least : Int) : Bool := balOk s k && !fbB (mg s k) least (mgN s k)
def firstV (s : ByteArray) (k least : Int) : Int := fbV (mg s k) least (mgN s k)
def firstB (s : ByteArray) (k least : Int) : Bool := fbB (mg s k) least (mgN s k)
theorem mgN_yes {s : ByteArray} {k : Int} (h : balOk s k = true) : mgN s k = s.size + 1 := by unfold mgN; rw [if_pos h]
theorem mgN_no {s : ByteArray} {k : Int} (h : balOk s k = false) : mgN s k = 0 := by unfold mgN; rw [h]; rfl
theorem firstB_no {s : ByteArray} {k least : Int} (h : balOk s k = false) : firstB s k least = false := by unfold firstB; rw [mgN_no h]; rfl
theorem firstV_no {s : ByteArray} {k least : Int} (h : balOk s k = false) : firstV s k least = 0 := by unfold firstV; rw [mgN_no h]; rfl
theorem leadsN_ret (s : ByteArray) (k : Int) (w : World) (hs : s.size ≤ maxLen) : Calls Try.prog 77 #[.string s, .int .i64 k] w (IntsRet w (balOk s k) (fr (mg s k) (mgN s k))) := by
  have := leads_ret s k w hs
  rw [mgsV_fr] at this
  exact this
theorem below0_any (s : ByteArray) (k least : Int) (w : World) (v : Value) (B : Nat) (h : IRow w B v (fr (mg s k) (mgN s k))) :
    Calls Try.prog 78 #[v, .int .i64 least] w fun e w' => e = .returned (.tuple #[.int .i64 (firstV s k least), .bool (firstB s k least)]) ∧ w = w' :=
  firstBelow_any _ _ least v B w h (by have := mgN_le s k; omega)

set_option maxHeartbeats 400000 in
theorem isAhead_ret (s : ByteArray) (k : Int) (w : World) (hs : s.size ≤ maxLen) : Calls Try.prog 26 #[.string s, .int .i64 k] w (Ret w (.tuple #[.bool (noneB s k 1), .bool (balOk s k)])) := by
  have HL : Hid (∀ w, Calls Try.prog 77 #[.string s, .int .i64 k] w (IntsRet w (balOk s k) (fr (mg s k) (mgN s k)))) := Lib.hid fun w => leadsN_ret s k w hs
  have HB : Hid (∀ w v B, IRow w B v (fr (mg s k) (mgN s k)) → Calls Try.prog 78 #[v, .int .i64 1] w fun e w' => e = .returned (.tuple #[.int .i64 (firstV s k 1), .bool (firstB s k 1)]) ∧ w = w') := Lib.hid fun w v B h => below0_any s k 1 w v B h
  have HN : Hid (noneB s k 1 = (balOk s k && !firstB s k 1)) := Lib.hid rfl
  generalize balOk s k = b at *
  generalize firstB s k 1 = c at *
  generalize noneB s k 1 = d at *
  cases b <;> cases c
  all_goals
    go_enter Try.func26, Try.ntmps26
    go_wp2_with (first | (go_at_call 77; refine (HL.out _).mono ?_; rintro e w1 ⟨v, rfl, hr, hb⟩) | (go_at_call 78; refine (HB.out _ _ _ hr).mono ?_; rintro e w' ⟨rfl, rfl⟩))
    go_ret2
    exact ⟨ret_bb HN.out.symm rfl, hb⟩
set_option maxHeartbeats 400000 in
theorem specIsAhead_ret (s : ByteArray) (k : Int) (w : World) (hs : s.size ≤ maxLen) : Calls Try.prog 25 #[.string s, .int .i64 k] w (Ret w (.tuple #[.bool (noneB s k 1), .bool (balOk s k)])) := by
  rcases Bool.eq_false_or_eq_true (balOk s k) with hp | hp
  · have HC := Lib.hid (balOk_of hp)
    have HF : Hid (∀ w, Calls Try.prog 76 #[.string s, .int .i64 k, .int .i64 (0)] w (Ret w (.int .i64 (fb (mg s k) 1 (s.size + 1))))) := Lib.hid fun w => baFirst_any s k (0) w HC.out.1 HC.out.2
    have HN : Hid (noneB s k 1 = decide (fb (mg s k) 1 (s.size + 1) < 0)) := by
      unfold Hid noneB fbB
      rw [hp, mgN_yes hp, Bool.true_and, ← decide_not]
      congr 1
      rw [Int.not_le]
    rw [HN.out, hp]
    generalize fb (mg s k) 1 (s.size + 1) = x at *
    go_enter Try.func25, Try.ntmps25
    go_wp2_with (first | (go_at_call 75; refine (asked_any s k _ hs).mono ?_; rintro e w' ⟨rfl, rfl⟩; rw [hp]) | (go_at_call 76; refine (HF.out _).mono ?_; rintro e w1 ⟨rfl, hb⟩))
    go_ret2
    exact ⟨rfl, hb⟩
  · have HN : Hid (noneB s k 1 = false) := by unfold Hid noneB; rw [hp]; rfl
    rw [HN.out, hp]
    go_enter Try.func25, Try.ntmps25
    go_wp2_with (go_at_call 75; refine (asked_any s k _ hs).mono ?_; rintro e w' ⟨rfl, rfl⟩; rw [hp])
    go_ret2
    exact ⟨rfl, Below.refl _ _⟩

set_option maxHeartbeats 400000 in
theorem isNeverBehind_ret (s : ByteArray) (k : Int) (w : World) (hs : s.size ≤ maxLen) : Calls Try.prog 28 #[.string s, .int .i64 k] w (Ret w (.tuple #[.bool (noneB s k 0), .bool (balOk s k)])) := by
  have HL : Hid (∀ w, Calls Try.prog 77 #[.string s, .int .i64 k] w (IntsRet w (balOk s k) (fr (mg s k) (mgN s k)))) := Lib.hid fun w => leadsN_ret s k w hs
  have HB : Hid (∀ w v B, IRow w B v (fr (mg s k) (mgN s k)) → Calls Try.prog 78 #[v, .int .i64 0] w fun e w' => e = .returned (.tuple #[.int .i64 (firstV s k 0), .bool (firstB s k 0)]) ∧ w = w') := Lib.hid fun w v B h => below0_any s k 0 w v B h
  have HN : Hid (noneB s k 0 = (balOk s k && !firstB s k 0)) := Lib.hid rfl
  generalize balOk s k = b at *
  generalize firstB s k 0 = c at *
  generalize noneB s k 0 = d at *
  cases b <;> cases c
  all_goals
    go_enter Try.func28, Try.ntmps28
    go_wp2_with (first | (go_at_call 77; refine (HL.out _).mono ?_; rintro e w1 ⟨v, rfl, hr, hb⟩) | (go_at_call 78; refine (HB.out _ _ _ hr).mono ?_; rintro e w' ⟨rfl, rfl⟩))
    go_ret2
    exact ⟨ret_bb HN.out.symm rfl, hb⟩
set_option maxHeartbeats 400000 in
theorem specIsNeverBehind_ret (s : ByteArray) (k : Int) (w : World) (hs : s.size ≤ maxLen) : Calls Try.prog 27 #[.string s, .int .i64 k] w (Ret w (.tuple #[.bool (noneB s k 0), .bool (balOk s k)])) := by
  rcases Bool.eq_false_or_eq_true (balOk s k) with hp | hp
  · have HC := Lib.hid (balOk_of hp)
    have HF : Hid (∀ w, Calls Try.prog 76 #[.string s, .int .i64 k, .int .i64 (-1)] w (Ret w (.int .i64 (fb (mg s k) 0 (s.size + 1))))) := Lib.hid fun w => baFirst_any s k (-1) w HC.out.1 HC.out.2
    have HN : Hid (noneB s k 0 = decide (fb (mg s k) 0 (s.size + 1) < 0)) := by
      unfold Hid noneB fbB
      rw [hp, mgN_yes hp, Bool.true_and, ← decide_not]
      congr 1
      rw [Int.not_le]
    rw [HN.out, hp]
    generalize fb (mg s k) 0 (s.size + 1) = x at *
    go_enter Try.func27, Try.ntmps27
    go_wp2_with (first | (go_at_call 75; refine (asked_any s k _ hs).mono ?_; rintro e w' ⟨rfl, rfl⟩; rw [hp]) | (go_at_call 76; refine (HF.out _).mono ?_; rintro e w1 ⟨rfl, hb⟩))
    go_ret2
    exact ⟨rfl, hb⟩
  · have HN : Hid (noneB s k 0 = false) := by unfold Hid noneB; rw [hp]; rfl
    rw [HN.out, hp]
    go_enter Try.func27, Try.ntmps27
    go_wp2_with (go_at_call 75; refine (asked_any s k _ hs).mono ?_; rintro e w' ⟨rfl, rfl⟩; rw [hp])
    go_ret2
    exact ⟨rfl, Below.refl _ _⟩

set_option maxHeartbeats 400000 in
theorem firstNotAhead_ret (s : ByteArray) (k : Int) (w : World) (hs : s.size ≤ maxLen) : Calls Try.prog 30 #[.string s, .int .i64 k] w (Ret w (.tuple #[.int .i64 (firstV s k 1), .bool (firstB s k 1)])) := by
  have HL : Hid (∀ w, Calls Try.prog 77 #[.string s, .int .i64 k] w (IntsRet w (balOk s k) (fr (mg s k) (mgN s k)))) := Lib.hid fun w => leadsN_ret s k w hs
  have HB : Hid (∀ w v B, IRow w B v (fr (mg s k) (mgN s k)) → Calls Try.prog 78 #[v, .int .i64 1] w fun e w' => e = .returned (.tuple #[.int .i64 (firstV s k 1), .bool (firstB s k 1)]) ∧ w = w') := Lib.hid fun w v B h => below0_any s k 1 w v B h
  generalize firstV s k 1 = x at *
  generalize firstB s k 1 = c at *
  go_enter Try.func30, Try.ntmps30
  go_wp2_with (first | (go_at_call 77; refine (HL.out _).mono ?_; rintro e w1 ⟨v, rfl, hr, hb⟩) | (go_at_call 78; refine (HB.out _ _ _ hr).mono ?_; rintro e w' ⟨rfl, rfl⟩))
  go_ret2
  exact ⟨rfl, hb⟩
set_option maxHeartbeats 400000 in
theorem specFirstNotAhead_ret (s : ByteArray) (k : Int) (w : World) (hs : s.size ≤ maxLen) : Calls Try.prog 29 #[.string s, .int .i64 k] w (Ret w (.tuple #[.int .i64 (firstV s k 1), .bool (firstB s k 1)])) := by
  rcases Bool.eq_false_or_eq_true (balOk s k) with hp | hp
  · have HC := Lib.hid (balOk_of hp)
    have HF : Hid (∀ w, Calls Try.prog 76 #[.string s, .int .i64 k, .int .i64 (0)] w (Ret w (.int .i64 (fb (mg s k) 1 (s.size + 1))))) := Lib.hid fun w => baFirst_any s k (0) w HC.out.1 HC.out.2
    have HV : Hid (firstV s k 1 = if fb (mg s k) 1 (s.size + 1) < 0 then 0 else fb (mg s k) 1 (s.size + 1)) := by
      unfold Hid firstV fbV; rw [mgN_yes hp]
    have HB : Hid (firstB s k 1 = decide (0 ≤ fb (mg s k) 1 (s.size + 1))) := by
      unfold Hid firstB fbB; rw [mgN_yes hp]
    generalize fb (mg s k) 1 (s.size + 1) = x at *
    by_cases hx : x < 0
    · have HV' : Hid (firstV s k 1 = 0) := by unfold Hid; rw [HV.out, if_pos hx]
      have HB' : Hid (firstB s k 1 = false) := by unfold Hid; rw [HB.out, decide_eq_false (by omega)]
      rw [HV'.out, HB'.out]
      go_enter Try.func29, Try.ntmps29
      go_wp2_with (first | (go_at_call 75; refine (asked_any s k _ hs).mono ?_; rintro e w' ⟨rfl, rfl⟩; rw [hp]) | (go_at_call 76; refine (HF.out _).mono ?_; rintro e w1 ⟨rfl, hb⟩))
      go_ret2
      exact ⟨rfl, hb⟩
    · have HV' : Hid (firstV s k 1 = x) := by unfold Hid; rw [HV.out, if_neg hx]
      have HB' : Hid (firstB s k 1 = true) := by unfold Hid; rw [HB.out, decide_eq_true (by omega)]
      rw [HV'.out, HB'.out]
      go_enter Try.func29, Try.ntmps29
      go_wp2_with fail
      refine (asked_any s k _ hs).mono ?_; rintro e w' ⟨rfl, rfl⟩; rw [hp]
      go_wp2_with fail
      refine (HF.out _).mono ?_; rintro e w1 ⟨rfl, hb⟩
      go_wp2_with fail
      refine (HF.out _).mono ?_; rintro e w2 ⟨rfl, hb2⟩
      go_wp2_with fail
      go_ret2
      exact ⟨rfl, hb.trans (hb2.mono hb.size)⟩
  · have HV' : Hid (firstV s k 1 = 0) := Lib.hid (firstV_no hp)
    have HB' : Hid (firstB s k 1 = false) := Lib.hid (firstB_no hp)
    rw [HV'.out, HB'.out]
    go_enter Try.func29, Try.ntmps29
    go_wp2_with (go_at_call 75; refine (asked_any s k _ hs).mono ?_; rintro e w' ⟨rfl, rfl⟩; rw [hp])
    go_ret2
    exact ⟨rfl, Below.refl _ _⟩

set_option maxHeartbeats 400000 in
theorem firstBehind_ret (s : ByteArray) (k : Int) (w : World) (hs : s.size ≤ maxLen) : Calls Try.prog 32 #[.string s, .int .i64 k] w (Ret w (.tuple #[.int .i64 (firstV s k 0), .bool (firstB s k 0)])) := by
  have HL : Hid (∀ w, Calls Try.prog 77 #[.string s, .int .i64 k] w (IntsRet w (balOk s k) (fr (mg s k) (mgN s k)))) := Lib.hid fun w => leadsN_ret s k w hs
  have HB : Hid (∀ w v B, IRow w B v (fr (mg s k) (mgN s k)) → Calls Try.prog 78 #[v, .int .i64 0] w fun e w' => e = .returned (.tuple #[.int .i64 (firstV s k 0), .bool (firstB s k 0)]) ∧ w = w') := Lib.hid fun w v B h => below0_any s k 0 w v B h
  generalize firstV s k 0 = x at *
  generalize firstB s k 0 = c at *
  go_enter Try.func32, Try.ntmps32
  go_wp2_with (first | (go_at_call 77; refine (HL.out _).mono ?_; rintro e w1 ⟨v, rfl, hr, hb⟩) | (go_at_call 78; refine (HB.out _ _ _ hr).mono ?_; rintro e w' ⟨rfl, rfl⟩))
  go_ret2
  exact ⟨rfl, hb⟩
set_option maxHeartbeats 400000 in
theorem specFirstBehind_ret (s : ByteArray) (k : Int) (w : World) (hs : s.size ≤ maxLen) : Calls Try.prog 31 #[.string s, .int .i64 k] w (Ret w (.tuple #[.int .i64 (firstV s k 0), .bool (firstB s k 0)])) := by
  rcases Bool.eq_false_or_eq_true (balOk s k) with hp | hp
  · have HC := Lib.hid (balOk_of hp)
    have HF : Hid (∀ w, Calls Try.prog 76 #[.string s, .int .i64 k, .int .i64 (-1)] w (Ret w (.int .i64 (fb (mg s k) 0 (s.size + 1))))) := Lib.hid fun w => baFirst_any s k (-1) w HC.out.1 HC.out.2
    have HV : Hid (firstV s k 0 = if fb (mg s k) 0 (s.size + 1) < 0 then 0 else fb (mg s k) 0 (s.size + 1)) := by
      unfold Hid firstV fbV; rw [mgN_yes hp]
    have HB : Hid (firstB s k 0 = decide (0 ≤ fb (mg s k) 0 (s.size + 1))) := by
      unfold Hid firstB fbB; rw [mgN_yes hp]
    generalize fb (mg s k) 0 (s.size + 1) = x at *
    by_cases hx : x < 0
    · have HV' : Hid (firstV s k 0 = 0) := by unfold Hid; rw [HV.out, if_pos hx]
      have HB' : Hid (firstB s k 0 = false) := by unfold Hid; rw [HB.out, decide_eq_false (by omega)]
      rw [HV'.out, HB'.out]
      go_enter Try.func31, Try.ntmps31
      go_wp2_with (first | (go_at_call 75; refine (asked_any s k _ hs).mono ?_; rintro e w' ⟨rfl, rfl⟩; rw [hp]) | (go_at_call 76; refine (HF.out _).mono ?_; rintro e w1 ⟨rfl, hb⟩))
      go_ret2
      exact ⟨rfl, hb⟩
    · have HV' : Hid (firstV s k 0 = x) := by unfold Hid; rw [HV.out, if_neg hx]
      have HB' : Hid (firstB s k 0 = true) := by unfold Hid; rw [HB.out, decide_eq_true (by omega)]
      rw [HV'.out, HB'.out]
      go_enter Try.func31, Try.ntmps31
      go_wp2_with fail
      refine (asked_any s k _ hs).mono ?_; rintro e w' ⟨rfl, rfl⟩; rw [hp]
      go_wp2_with fail
      refine (HF.out _).mono ?_; rintro e w1 ⟨rfl, hb⟩
      go_wp2_with fail
      refine (HF.out _).mono ?_; rintro e w2 ⟨rfl, hb2⟩
      go_wp2_with fail
      go_ret2
      exact ⟨rfl, hb.trans (hb2.mono hb.size)⟩
  · have HV' : Hid (firstV s k 0 = 0) := Lib.hid (firstV_no hp)
    have HB' : Hid (firstB s k 0 = false) := Lib.hid (firstB_no hp)
    rw [HV'.out, HB'.out]
    go_enter Try.func31, Try.ntmps31
    go_wp2_with (go_at_call 75; refine (asked_any s k _ hs).mono ?_; rintro e w' ⟨rfl, rfl⟩; rw [hp])
    go_ret2
    exact ⟨rfl, Below.refl _ _⟩
end Go.Proofs.Ytlgiamgjimffnaa
