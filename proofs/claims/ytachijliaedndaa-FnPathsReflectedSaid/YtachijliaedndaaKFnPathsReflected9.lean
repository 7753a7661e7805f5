/- Pack 9 of what FnPathsReflected needs: TchS, CntS. -/
import Derived.Test.YtachijliaedndaaKFnPathsReflected8
import Derived.Deep.RegionLaw
/- The model's chapter 4: heights that are touched. -/
namespace Go.Proofs.Ytachijliaedndaa
open Go.RowKit
set_option linter.unusedVariables false
set_option maxHeartbeats 400000 in
theorem miFirst_ret (s : ByteArray) (h : Int) (w : World) (hp : pathB s = true) : Calls Try.prog 145 #[.string s, .int .i64 h] w (Ret w (.int .i64 (faZ s h))) := by
  have HP := Lib.hid hp
  have h40 := ((pathB_iff s).1 hp).1
  clear hp
  go_enter Try.func145, Try.ntmps145
  go_wp2_with (go_at_call 150; refine (paHeights_any s _ HP.out).mono ?_; rintro e w1 ⟨v, rfl, hr, hb⟩; obtain ⟨g, c, rfl, hgB, hgl⟩ := hr.form' (hts_length s) (by omega))
  have HB := Lib.hid hb
  clear hb
  go_loop [10] (fun i => ∃ k : Nat, k ≤ s.size + 1 ∧ i = .int .i64 (k : Int) ∧ Hid (faGo s h (s.size + 1 - k) k = faZ s h)) (fun i => s.size + 1 - (intOf i).toNat)
  case atStart => exact ⟨0, Nat.zero_le _, rfl, Lib.hid rfl⟩
  case round =>
    obtain ⟨k, hk, rfl, HF⟩ := hrel
    by_cases hlt : k < s.size + 1
    · have hc := hts_at hr k (by omega)
      have e1 : s.size + 1 - k = (s.size - k) + 1 := by omega
      have HF1 := HF.out
      rw [e1, faGo] at HF1
      clear e1
      by_cases hq : hAt s k = h
      · have q : (hAt s k == h) = true := by simpa using hq
        rw [if_pos hq] at HF1
        have HF2 := Lib.hid HF1
        clear HF1 hq
        go_wp2
        go_ret
        exact ⟨by rw [← HF2.out]; rfl, HB.out⟩
      · have q : (hAt s k == h) = false := beq_eq_false_iff_ne.2 hq
        rw [if_neg hq] at HF1
        have HF2 : Hid (faGo s h (s.size + 1 - (k + 1)) (k + 1) = faZ s h) := Lib.hid (by rw [show s.size + 1 - (k + 1) = s.size - k by omega]; exact HF1)
        clear HF1 hq
        go_wp2
        go_round
        case rel => exact ⟨k + 1, by omega, by go_num, HF2⟩
        case measure => simp [intOf]; omega
    · have HF2 : Hid (faZ s h = -1) := Lib.hid (by rw [← HF.out, show s.size + 1 - k = 0 by omega]; rfl)
      go_wp2
      go_ret
      exact ⟨by rw [HF2.out]; rfl, HB.out⟩
theorem miHeight_any (h : Int) (w : World) : Calls Try.prog 144 #[.int .i64 h] w fun e w' => e = .returned (.bool (inB h (-40) 40)) ∧ w = w' := by
  have HI : Hid (∀ w, Calls Try.prog 173 #[.int .i64 h, .int .i64 (-40), .int .i64 40] w fun e w' => e = .returned (.bool (inB h (-40) 40)) ∧ w = w') := Lib.hid fun w => in_any h (-40) 40 w
  go_enter Try.func144, Try.ntmps144
  go_wp2_with (go_at_call 173; refine (HI.out _).mono ?_; rintro e w' ⟨rfl, rfl⟩)
  go_ret
  exact ⟨rfl, rfl⟩
def faOk (s : ByteArray) (h : Int) : Bool := pathB s && inB h (-40) 40 && decide (0 ≤ faZ s h)
def faV (s : ByteArray) (h : Int) : Int := if faOk s h = true then faZ s h else 0
set_option maxHeartbeats 400000 in
theorem specFirstAt_ret (s : ByteArray) (h : Int) (w : World) (hs : s.size ≤ maxLen) : Calls Try.prog 16 #[.string s, .int .i64 h] w (Ret w (.tuple #[.int .i64 (faV s h), .bool (faOk s h)])) := by
  rcases Bool.eq_false_or_eq_true (pathB s) with hp | hp
  case inr =>
    have e1 : faOk s h = false := by simp [faOk, hp]
    have e2 : faV s h = 0 := by rw [faV, e1]; rfl
    rw [e1, e2]
    clear e1 e2
    go_enter Try.func16, Try.ntmps16
    go_wp2_with (first | (go_at_call 143; refine (paGood_any s _ hs).mono ?_; rintro e w' ⟨rfl, rfl⟩) | (go_at_call 144; refine (miHeight_any h _).mono ?_; rintro e w' ⟨rfl, rfl⟩))
    go_ret2
    exact ⟨rfl, Below.refl _ _⟩
  have HP := Lib.hid hp
  have h40 := ((pathB_iff s).1 hp).1
  rcases Bool.eq_false_or_eq_true (inB h (-40) 40) with hi | hi
  case inr =>
    have e1 : faOk s h = false := by simp [faOk, hi]
    have e2 : faV s h = 0 := by rw [faV, e1]; rfl
    rw [e1, e2]
    clear e1 e2
    go_enter Try.func16, Try.ntmps16
    go_wp2_with (first | (go_at_call 143; refine (paGood_any s _ hs).mono ?_; rintro e w' ⟨rfl, rfl⟩) | (go_at_call 144; refine (miHeight_any h _).mono ?_; rintro e w' ⟨rfl, rfl⟩))
    go_ret2
    exact ⟨rfl, Below.refl _ _⟩
  have hbd := faZ_bd s h
  have MF : Hid (∀ w, Calls Try.prog 145 #[.string s, .int .i64 h] w (Ret w (.int .i64 (faZ s h)))) := Lib.hid fun w => miFirst_ret s h w HP.out
  by_cases h0 : 0 ≤ faZ s h
  case neg =>
    have e1 : faOk s h = false := by simp [faOk, h0]
    have e2 : faV s h = 0 := by rw [faV, e1]; rfl
    have c0 : faZ s h < 0 := by omega
    rw [e1, e2]
    clear e1 e2 h0
    generalize faZ s h = z at *
    have hacc := Below.refl w.heap.size w
    go_enter Try.func16, Try.ntmps16
    go_wp2_with (first | (go_at_call 143; refine (paGood_any s _ hs).mono ?_; rintro e w' ⟨rfl, rfl⟩) | (go_at_call 144; refine (miHeight_any h _).mono ?_; rintro e w' ⟨rfl, rfl⟩) | (go_at_call 145; refine (MF.out _).mono ?_; rintro e w1 ⟨rfl, hb⟩; replace hacc := hacc.trans (hb.mono hacc.size); clear hb))
    go_ret2
    exact ⟨rfl, hacc⟩
  have e1 : faOk s h = true := by simp [faOk, hp, hi, h0]
  have c0 : ¬ faZ s h < 0 := by omega
  have e2 : faV s h = faZ s h := by rw [faV, if_pos e1]
  rw [e1, e2]
  clear e1 e2
  generalize faZ s h = z at *
  have MF2 : Hid (∀ w, Calls Try.prog 145 #[.string s, .int .i64 h] w (Ret w (.int .i64 z))) := MF
  have hacc := Below.refl w.heap.size w
  go_enter Try.func16, Try.ntmps16
  go_wp2_with (first | (go_at_call 143; refine (paGood_any s _ hs).mono ?_; rintro e w' ⟨rfl, rfl⟩) | (go_at_call 144; refine (miHeight_any h _).mono ?_; rintro e w' ⟨rfl, rfl⟩) | (go_at_call 145; refine (MF.out _).mono ?_; rintro e w1 ⟨rfl, hb⟩; replace hacc := hacc.trans (hb.mono hacc.size); clear hb))
  go_ret2
  exact ⟨rfl, hacc⟩
def rbV (s : ByteArray) (h : Int) : ByteArray := if faOk s h = true then turnS (s.extract 0 (faZ s h).toNat) ++ s.extract (faZ s h).toNat s.size else ⟨#[]⟩
def rhV (s : ByteArray) (h : Int) : ByteArray := if faOk s h = true then s.extract 0 (faZ s h).toNat ++ turnS (s.extract (faZ s h).toNat s.size) else ⟨#[]⟩
set_option maxHeartbeats 400000 in
theorem specReflectBefore_ret (s : ByteArray) (h : Int) (w : World) (hs : s.size ≤ maxLen) : Calls Try.prog 14 #[.string s, .int .i64 h] w (Ret w (.tuple #[.string (rbV s h), .bool (faOk s h)])) := by
  rcases Bool.eq_false_or_eq_true (pathB s) with hp | hp
  case inr =>
    have e1 : faOk s h = false := by simp [faOk, hp]
    have e2 : rbV s h = ⟨#[]⟩ := by rw [rbV, e1]; rfl
    rw [e1, e2]
    clear e1 e2
    go_enter Try.func14, Try.ntmps14
    go_wp2_with (first | (go_at_call 143; refine (paGood_any s _ hs).mono ?_; rintro e w' ⟨rfl, rfl⟩) | (go_at_call 144; refine (miHeight_any h _).mono ?_; rintro e w' ⟨rfl, rfl⟩))
    go_ret2
    exact ⟨rfl, Below.refl _ _⟩
  have HP := Lib.hid hp
  have h40 := ((pathB_iff s).1 hp).1
  rcases Bool.eq_false_or_eq_true (inB h (-40) 40) with hi | hi
  case inr =>
    have e1 : faOk s h = false := by simp [faOk, hi]
    have e2 : rbV s h = ⟨#[]⟩ := by rw [rbV, e1]; rfl
    rw [e1, e2]
    clear e1 e2
    go_enter Try.func14, Try.ntmps14
    go_wp2_with (first | (go_at_call 143; refine (paGood_any s _ hs).mono ?_; rintro e w' ⟨rfl, rfl⟩) | (go_at_call 144; refine (miHeight_any h _).mono ?_; rintro e w' ⟨rfl, rfl⟩))
    go_ret2
    exact ⟨rfl, Below.refl _ _⟩
  have hbd := faZ_bd s h
  have MF : Hid (∀ w, Calls Try.prog 145 #[.string s, .int .i64 h] w (Ret w (.int .i64 (faZ s h)))) := Lib.hid fun w => miFirst_ret s h w HP.out
  by_cases h0 : 0 ≤ faZ s h
  case neg =>
    have e1 : faOk s h = false := by simp [faOk, h0]
    have e2 : rbV s h = ⟨#[]⟩ := by rw [rbV, e1]; rfl
    have c0 : faZ s h < 0 := by omega
    rw [e1, e2]
    clear e1 e2 h0
    generalize faZ s h = z at *
    have hacc := Below.refl w.heap.size w
    go_enter Try.func14, Try.ntmps14
    go_wp2_with (first | (go_at_call 143; refine (paGood_any s _ hs).mono ?_; rintro e w' ⟨rfl, rfl⟩) | (go_at_call 144; refine (miHeight_any h _).mono ?_; rintro e w' ⟨rfl, rfl⟩) | (go_at_call 145; refine (MF.out _).mono ?_; rintro e w1 ⟨rfl, hb⟩; replace hacc := hacc.trans (hb.mono hacc.size); clear hb))
    go_ret2
    exact ⟨rfl, hacc⟩
  have e1 : faOk s h = true := by simp [faOk, hp, hi, h0]
  have c0 : ¬ faZ s h < 0 := by omega
  have e2 : rbV s h = turnS (s.extract 0 (faZ s h).toNat) ++ s.extract (faZ s h).toNat s.size := by rw [rbV, if_pos e1]
  have hq : faZ s h ≤ s.size := hbd.2
  rw [e1, e2]
  clear e1 e2
  obtain ⟨z, hz⟩ : ∃ z : Nat, faZ s h = z := ⟨(faZ s h).toNat, by omega⟩
  have hzs : z ≤ s.size := by omega
  rw [hz] at MF
  rw [hz, Int.toNat_natCast]
  have HT : Hid (∀ w, Calls Try.prog 146 #[.string (s.extract 0 z)] w (Ret w (.string (turnS (s.extract 0 z))))) := Lib.hid fun w => paTurn_ret _ w (by rw [ByteArray.size_extract]; omega)
  have j1 : (z : Int) ≤ (s.size : Int) := by omega
  have j2 : (0 : Int) ≤ (z : Int) := by omega
  have hbd0 : Below w.heap.size w w.drew := (Below.refl _ _).drew
  have j3 : ¬ 9223372036854775807 < (turnS (s.extract 0 z)).size + (s.size - z) := by rw [turnS_size, ByteArray.size_extract]; omega
  clear hz hbd h0 c0 hq
  have c0 : ¬ (z : Int) < 0 := by omega
  have hacc := Below.refl w.heap.size w
  go_enter Try.func14, Try.ntmps14
  go_wp2_with (first | (go_at_call 143; refine (paGood_any s _ hs).mono ?_; rintro e w' ⟨rfl, rfl⟩) | (go_at_call 144; refine (miHeight_any h _).mono ?_; rintro e w' ⟨rfl, rfl⟩) | (go_at_call 145; refine (MF.out _).mono ?_; rintro e w1 ⟨rfl, hb⟩; replace hacc := hacc.trans (hb.mono hacc.size); clear hb))
  have hacd := hacc.drew
  go_region_law (go_simp; go_at_call 146; refine (HT.out _).mono ?_; rintro e w2 ⟨rfl, hb2⟩)
  all_goals (try go_wp2_with fail)
  all_goals go_ret2
  all_goals exact ⟨rfl, hacd.trans (hb2.mono hacd.size)⟩
set_option maxHeartbeats 400000 in
theorem specReflectBehind_ret (s : ByteArray) (h : Int) (w : World) (hs : s.size ≤ maxLen) : Calls Try.prog 12 #[.string s, .int .i64 h] w (Ret w (.tuple #[.string (rhV s h), .bool (faOk s h)])) := by
  rcases Bool.eq_false_or_eq_true (pathB s) with hp | hp
  case inr =>
    have e1 : faOk s h = false := by simp [faOk, hp]
    have e2 : rhV s h = ⟨#[]⟩ := by rw [rhV, e1]; rfl
    rw [e1, e2]
    clear e1 e2
    go_enter Try.func12, Try.ntmps12
    go_wp2_with (first | (go_at_call 143; refine (paGood_any s _ hs).mono ?_; rintro e w' ⟨rfl, rfl⟩) | (go_at_call 144; refine (miHeight_any h _).mono ?_; rintro e w' ⟨rfl, rfl⟩))
    go_ret2
    exact ⟨rfl, Below.refl _ _⟩
  have HP := Lib.hid hp
  have h40 := ((pathB_iff s).1 hp).1
  rcases Bool.eq_false_or_eq_true (inB h (-40) 40) with hi | hi
  case inr =>
    have e1 : faOk s h = false := by simp [faOk, hi]
    have e2 : rhV s h = ⟨#[]⟩ := by rw [rhV, e1]; rfl
    rw [e1, e2]
    clear e1 e2
    go_enter Try.func12, Try.ntmps12
    go_wp2_with (first | (go_at_call 143; refine (paGood_any s _ hs).mono ?_; rintro e w' ⟨rfl, rfl⟩) | (go_at_call 144; refine (miHeight_any h _).mono ?_; rintro e w' ⟨rfl, rfl⟩))
    go_ret2
    exact ⟨rfl, Below.refl _ _⟩
  have hbd := faZ_bd s h
  have MF : Hid (∀ w, Calls Try.prog 145 #[.string s, .int .i64 h] w (Ret w (.int .i64 (faZ s h)))) := Lib.hid fun w => miFirst_ret s h w HP.out
  by_cases h0 : 0 ≤ faZ s h
  case neg =>
    have e1 : faOk s h = false := by simp [faOk, h0]
    have e2 : rhV s h = ⟨#[]⟩ := by rw [rhV, e1]; rfl
    have c0 : faZ s h < 0 := by omega
    rw [e1, e2]
    clear e1 e2 h0
    generalize faZ s h = z at *
    have hacc := Below.refl w.heap.size w
    go_enter Try.func12, Try.ntmps12
    go_wp2_with (first | (go_at_call 143; refine (paGood_any s _ hs).mono ?_; rintro e w' ⟨rfl, rfl⟩) | (go_at_call 144; refine (miHeight_any h _).mono ?_; rintro e w' ⟨rfl, rfl⟩) | (go_at_call 145; refine (MF.out _).mono ?_; rintro e w1 ⟨rfl, hb⟩; replace hacc := hacc.trans (hb.mono hacc.size); clear hb))
    go_ret2
    exact ⟨rfl, hacc⟩
  have e1 : faOk s h = true := by simp [faOk, hp, hi, h0]
  have c0 : ¬ faZ s h < 0 := by omega
  have e2 : rhV s h = s.extract 0 (faZ s h).toNat ++ turnS (s.extract (faZ s h).toNat s.size) := by rw [rhV, if_pos e1]
  have hq : faZ s h ≤ s.size := hbd.2
  rw [e1, e2]
  clear e1 e2
  obtain ⟨z, hz⟩ : ∃ z : Nat, faZ s h = z := ⟨(faZ s h).toNat, by omega⟩
  have hzs : z ≤ s.size := by omega
  rw [hz] at MF
  rw [hz, Int.toNat_natCast]
  have HT : Hid (∀ w, Calls Try.prog 146 #[.string (s.extract z s.size)] w (Ret w (.string (turnS (s.extract z s.size))))) := Lib.hid fun w => paTurn_ret _ w (by rw [ByteArray.size_extract]; omega)
  have j1 : (z : Int) ≤ (s.size : Int) := by omega
  have j2 : (0 : Int) ≤ (z : Int) := by omega
  have hbd0 : Below w.heap.size w w.drew := (Below.refl _ _).drew
  have j3 : ¬ 9223372036854775807 < z + (turnS (s.extract z s.size)).size := by rw [turnS_size, ByteArray.size_extract]; omega
  clear hz hbd h0 c0 hq
  have c0 : ¬ (z : Int) < 0 := by omega
  have hacc := Below.refl w.heap.size w
  go_enter Try.func12, Try.ntmps12
  go_wp2_with (first | (go_at_call 143; refine (paGood_any s _ hs).mono ?_; rintro e w' ⟨rfl, rfl⟩) | (go_at_call 144; refine (miHeight_any h _).mono ?_; rintro e w' ⟨rfl, rfl⟩) | (go_at_call 145; refine (MF.out _).mono ?_; rintro e w1 ⟨rfl, hb⟩; replace hacc := hacc.trans (hb.mono hacc.size); clear hb))
  have hacd := hacc.drew
  go_region_law (go_simp; go_at_call 146; refine (HT.out _).mono ?_; rintro e w2 ⟨rfl, hb2⟩)
  all_goals (try go_wp2_with fail)
  all_goals go_ret2
  all_goals exact ⟨rfl, hacd.trans (hb2.mono hacd.size)⟩
end Go.Proofs.Ytachijliaedndaa

/- The model's CountTouching, CountAbove, CountHighest, CountFirstPassage; miWalls. -/
namespace Go.Proofs.Ytachijliaedndaa
open Go.RowKit
set_option linter.unusedVariables false
theorem cntOk_of {u d : Int} (h : cntOk u d = true) : 0 ≤ u ∧ 0 ≤ d ∧ u + d ≤ 40 := by
  unfold cntOk at h
  simp only [Bool.and_eq_true, decide_eq_true_eq] at h
  omega
theorem inB_of {a lo hi : Int} (h : inB a lo hi = true) : lo ≤ a ∧ a ≤ hi := by
  unfold inB at h
  simpa only [Bool.and_eq_true, decide_eq_true_eq] using h
/-! ### CountTouching -/
def ctoOk (a b h : Int) : Bool := cntOk a b && inB h (-40) 40
def ctoV (a b h : Int) : Int := if ctoOk a b h = true then tchZ (a + b) (a - b) h else 0
set_option maxHeartbeats 400000 in
theorem specCountTouching_ret (a b h : Int) (w : World) : Calls Try.prog 89 #[.int .i64 a, .int .i64 b, .int .i64 h] w (Ret w (.tuple #[.int .i64 (ctoV a b h), .bool (ctoOk a b h)])) := by
  rcases Bool.eq_false_or_eq_true (cntOk a b) with hc | hc <;> rcases Bool.eq_false_or_eq_true (inB h (-40) 40) with hi | hi
  · have e1 : ctoOk a b h = true := by simp [ctoOk, hc, hi]
    have e2 : ctoV a b h = tchZ (a + b) (a - b) h := by rw [ctoV, if_pos e1]
    obtain ⟨c1, c2, c3⟩ := cntOk_of hc
    have hb := inB_of hi
    have HT : Hid (∀ w, Calls Try.prog 205 #[.int .i64 (a + b), .int .i64 (a - b), .int .i64 h] w (Ret w (.int .i64 (tchZ (a + b) (a - b) h)))) := Lib.hid fun w => miTouching_ret _ _ _ w (by omega) (by omega) (by omega)
    rw [e1, e2]
    clear e1 e2
    go_enter Try.func89, Try.ntmps89
    go_wp2_with (first | (go_at_call 199; refine (steps_any a b _).mono ?_; rintro e w' ⟨rfl, rfl⟩) | (go_at_call 144; refine (miHeight_any h _).mono ?_; rintro e w' ⟨rfl, rfl⟩) | (go_at_call 205; refine (HT.out _).mono ?_; rintro e w1 ⟨rfl, hb1⟩))
    go_ret2
    exact ⟨rfl, hb1⟩
  all_goals
    have e1 : ctoOk a b h = false := by simp [ctoOk, hc, hi]
    have e2 : ctoV a b h = 0 := by rw [ctoV, e1]; rfl
    rw [e1, e2]
    clear e1 e2
    go_enter Try.func89, Try.ntmps89
    go_wp2_with (first | (go_at_call 199; refine (steps_any a b _).mono ?_; rintro e w' ⟨rfl, rfl⟩) | (go_at_call 144; refine (miHeight_any h _).mono ?_; rintro e w' ⟨rfl, rfl⟩))
    go_ret2
    exact ⟨rfl, Below.refl _ _⟩
/-! ### CountHighest -/
def chiOk (a b h : Int) : Bool := cntOk a b && inB h 0 40
def chiV (a b h : Int) : Int := if chiOk a b h = true then tchZ (a + b) (a - b) h - tchZ (a + b) (a - b) (h + 1) else 0
set_option maxHeartbeats 400000 in
theorem specCountHighest_ret (a b h : Int) (w : World) : Calls Try.prog 87 #[.int .i64 a, .int .i64 b, .int .i64 h] w (Ret w (.tuple #[.int .i64 (chiV a b h), .bool (chiOk a b h)])) := by
  have HI := Lib.hid (in_any h 0 40)
  rcases Bool.eq_false_or_eq_true (cntOk a b) with hc | hc <;> rcases Bool.eq_false_or_eq_true (inB h 0 40) with hi | hi
  · have e1 : chiOk a b h = true := by simp [chiOk, hc, hi]
    have e2 : chiV a b h = tchZ (a + b) (a - b) h - tchZ (a + b) (a - b) (h + 1) := by rw [chiV, if_pos e1]
    obtain ⟨c1, c2, c3⟩ := cntOk_of hc
    have hb := inB_of hi
    have HT : Hid (∀ w, Calls Try.prog 205 #[.int .i64 (a + b), .int .i64 (a - b), .int .i64 h] w (Ret w (.int .i64 (tchZ (a + b) (a - b) h)))) := Lib.hid fun w => miTouching_ret _ _ _ w (by omega) (by omega) (by omega)
    have HU : Hid (∀ w, Calls Try.prog 205 #[.int .i64 (a + b), .int .i64 (a - b), .int .i64 (h + 1)] w (Ret w (.int .i64 (tchZ (a + b) (a - b) (h + 1))))) := Lib.hid fun w => miTouching_ret _ _ _ w (by omega) (by omega) (by omega)
    have b1 := tchZ_bd (a + b) (a - b) h c3
    have b2 := tchZ_bd (a + b) (a - b) (h + 1) c3
    rw [e1, e2]
    clear e1 e2
    generalize tchZ (a + b) (a - b) h = z1 at *
    generalize tchZ (a + b) (a - b) (h + 1) = z2 at *
    have hacc := Below.refl w.heap.size w
    have tok1 : True := trivial
    go_enter Try.func87, Try.ntmps87
    go_wp2_with (first | (go_at_call 199; refine (steps_any a b _).mono ?_; rintro e w' ⟨rfl, rfl⟩) | (go_at_call 173; refine (HI.out _).mono ?_; rintro e w' ⟨rfl, rfl⟩) | (have _t := tok1; go_at_call 205; clear _t tok1; refine (HT.out _).mono ?_; rintro e w1 ⟨rfl, hb1⟩; replace hacc := hacc.trans (hb1.mono hacc.size); clear hb1) | (go_at_call 205; refine (HU.out _).mono ?_; rintro e w1 ⟨rfl, hb1⟩; replace hacc := hacc.trans (hb1.mono hacc.size); clear hb1))
    go_ret2
    exact ⟨rfl, hacc⟩
  all_goals
    have e1 : chiOk a b h = false := by simp [chiOk, hc, hi]
    have e2 : chiV a b h = 0 := by rw [chiV, e1]; rfl
    rw [e1, e2]
    clear e1 e2
    go_enter Try.func87, Try.ntmps87
    go_wp2_with (first | (go_at_call 199; refine (steps_any a b _).mono ?_; rintro e w' ⟨rfl, rfl⟩) | (go_at_call 173; refine (HI.out _).mono ?_; rintro e w' ⟨rfl, rfl⟩))
    go_ret2
    exact ⟨rfl, Below.refl _ _⟩
/-! ### CountAbove -/
def cabOk (a b h : Int) : Bool := cntOk a b && inB h (-40) 0
def cabV (a b h : Int) : Int := if cabOk a b h = true then toZ (a + b) (a - b) - tchZ (a + b) (a - b) (h - 1) else 0
set_option maxHeartbeats 400000 in
theorem specCountAbove_ret (a b h : Int) (w : World) : Calls Try.prog 91 #[.int .i64 a, .int .i64 b, .int .i64 h] w (Ret w (.tuple #[.int .i64 (cabV a b h), .bool (cabOk a b h)])) := by
  have HI := Lib.hid (in_any h (-40) 0)
  rcases Bool.eq_false_or_eq_true (cntOk a b) with hc | hc <;> rcases Bool.eq_false_or_eq_true (inB h (-40) 0) with hi | hi
  · have e1 : cabOk a b h = true := by simp [cabOk, hc, hi]
    have e2 : cabV a b h = toZ (a + b) (a - b) - tchZ (a + b) (a - b) (h - 1) := by rw [cabV, if_pos e1]
    obtain ⟨c1, c2, c3⟩ := cntOk_of hc
    have hb := inB_of hi
    have HT : Hid (∀ w, Calls Try.prog 204 #[.int .i64 (a + b), .int .i64 (a - b)] w (Ret w (.int .i64 (toZ (a + b) (a - b))))) := Lib.hid fun w => miTo_ret _ _ w (by omega) (by omega)
    have HU : Hid (∀ w, Calls Try.prog 205 #[.int .i64 (a + b), .int .i64 (a - b), .int .i64 (h - 1)] w (Ret w (.int .i64 (tchZ (a + b) (a - b) (h - 1))))) := Lib.hid fun w => miTouching_ret _ _ _ w (by omega) (by omega) (by omega)
    have b1 := toZ_bd (a + b) (a - b) c3
    have b2 := tchZ_bd (a + b) (a - b) (h - 1) c3
    rw [e1, e2]
    clear e1 e2
    generalize toZ (a + b) (a - b) = z1 at *
    generalize tchZ (a + b) (a - b) (h - 1) = z2 at *
    have hacc := Below.refl w.heap.size w
    go_enter Try.func91, Try.ntmps91
    go_wp2_with (first | (go_at_call 199; refine (steps_any a b _).mono ?_; rintro e w' ⟨rfl, rfl⟩) | (go_at_call 173; refine (HI.out _).mono ?_; rintro e w' ⟨rfl, rfl⟩) | (go_at_call 204; refine (HT.out _).mono ?_; rintro e w1 ⟨rfl, hb1⟩; replace hacc := hacc.trans (hb1.mono hacc.size); clear hb1) | (go_at_call 205; refine (HU.out _).mono ?_; rintro e w1 ⟨rfl, hb1⟩; replace hacc := hacc.trans (hb1.mono hacc.size); clear hb1))
    go_ret2
    exact ⟨rfl, hacc⟩
  all_goals
    have e1 : cabOk a b h = false := by simp [cabOk, hc, hi]
    have e2 : cabV a b h = 0 := by rw [cabV, e1]; rfl
    rw [e1, e2]
    clear e1 e2
    go_enter Try.func91, Try.ntmps91
    go_wp2_with (first | (go_at_call 199; refine (steps_any a b _).mono ?_; rintro e w' ⟨rfl, rfl⟩) | (go_at_call 173; refine (HI.out _).mono ?_; rintro e w' ⟨rfl, rfl⟩))
    go_ret2
    exact ⟨rfl, Below.refl _ _⟩
/-! ### walls -/
def walB (l h : Int) : Bool := inB l (-40) 0 && inB h 0 40
theorem miWalls_any (l h : Int) (w : World) : Calls Try.prog 162 #[.int .i64 l, .int .i64 h] w fun e w' => e = .returned (.bool (walB l h)) ∧ w = w' := by
  have HL := Lib.hid (in_any l (-40) 0)
  have HH := Lib.hid (in_any h 0 40)
  unfold walB
  rcases Bool.eq_false_or_eq_true (inB l (-40) 0) with hl | hl
  all_goals
    rw [hl]
    have tok1 : True := trivial
    go_enter Try.func162, Try.ntmps162
    go_wp2_with (first | (have _t := tok1; go_at_call 173; clear _t tok1; refine (HL.out _).mono ?_; rintro e w' ⟨rfl, rfl⟩) | (go_at_call 173; refine (HH.out _).mono ?_; rintro e w' ⟨rfl, rfl⟩))
    go_ret
    exact ⟨by simp, rfl⟩
end Go.Proofs.Ytachijliaedndaa
