/- Pack 23 of what FnRecordsTold needs: BetS, SumS. -/
import Derived.Test.YtachijliaedndaaKFnRecordsTold22
/- The model's IsBetween, miCount, CountBetween, CountFirstPassage. -/
namespace Go.Proofs.Ytachijliaedndaa
open Go.RowKit
set_option linter.unusedVariables false
def beGo (s : ByteArray) (lo hi : Int) : Nat → Nat → Bool
  | 0, _ => true
  | n + 1, k => inB (hAt s k) lo hi && beGo s lo hi n (k + 1)
def beB (s : ByteArray) (lo hi : Int) : Bool := beGo s lo hi (s.size + 1) 0
set_option maxHeartbeats 400000 in
theorem miBetween_ret (s : ByteArray) (lo hi : Int) (w : World) (hp : pathB s = true) : Calls Try.prog 210 #[.string s, .int .i64 lo, .int .i64 hi] w (Ret w (.bool (beB s lo hi))) := by
  have HP := Lib.hid hp
  have h40 := ((pathB_iff s).1 hp).1
  clear hp
  go_enter Try.func210, Try.ntmps210
  go_wp2_with (go_at_call 150; refine (paHeights_any s _ HP.out).mono ?_; rintro e w1 ⟨v, rfl, hr, hb⟩; obtain ⟨g, c, rfl, hgB, hgl⟩ := hr.form' (hts_length s) (by omega))
  have HB := Lib.hid hb
  clear hb
  go_loop [12] (fun i => ∃ k : Nat, k ≤ s.size + 1 ∧ i = .int .i64 (k : Int) ∧ Hid (beGo s lo hi (s.size + 1 - k) k = beB s lo hi)) (fun i => s.size + 1 - (intOf i).toNat)
  case atStart => exact ⟨0, Nat.zero_le _, rfl, Lib.hid rfl⟩
  case round =>
    obtain ⟨k, hk, rfl, HF⟩ := hrel
    by_cases hlt : k < s.size + 1
    · have hc := hts_at hr k (by omega)
      have e1 : s.size + 1 - k = (s.size - k) + 1 := by omega
      have HF1 := HF.out
      rw [e1, beGo] at HF1
      clear e1
      have HI := Lib.hid (in_any (hAt s k) lo hi)
      rcases Bool.eq_false_or_eq_true (inB (hAt s k) lo hi) with q | q
      · rw [q, Bool.true_and] at HF1
        have HF2 : Hid (beGo s lo hi (s.size + 1 - (k + 1)) (k + 1) = beB s lo hi) := Lib.hid (by rw [show s.size + 1 - (k + 1) = s.size - k by omega]; exact HF1)
        clear HF1
        go_wp2_with (go_at_call 173; refine (HI.out _).mono ?_; rintro e w' ⟨rfl, rfl⟩)
        go_round
        case rel => exact ⟨k + 1, by omega, by go_num, HF2⟩
        case measure => simp [intOf]; omega
      · rw [q, Bool.false_and] at HF1
        have HF2 := Lib.hid HF1
        clear HF1
        go_wp2_with (go_at_call 173; refine (HI.out _).mono ?_; rintro e w' ⟨rfl, rfl⟩)
        go_ret
        exact ⟨by rw [← HF2.out]; rfl, HB.out⟩
    · have HF2 : Hid (beB s lo hi = true) := Lib.hid (by rw [← HF.out, show s.size + 1 - k = 0 by omega]; rfl)
      go_wp2
      go_ret
      exact ⟨by rw [HF2.out]; rfl, HB.out⟩
def ibOk (s : ByteArray) (lo hi : Int) : Bool := pathB s && walB lo hi
def ibV (s : ByteArray) (lo hi : Int) : Bool := ibOk s lo hi && beB s lo hi
set_option maxHeartbeats 400000 in
theorem specIsBetween_ret (s : ByteArray) (lo hi : Int) (w : World) (hs : s.size ≤ maxLen) : Calls Try.prog 93 #[.string s, .int .i64 lo, .int .i64 hi] w (Ret w (.tuple #[.bool (ibV s lo hi), .bool (ibOk s lo hi)])) := by
  have HW := Lib.hid (miWalls_any lo hi)
  rcases Bool.eq_false_or_eq_true (pathB s) with hp | hp <;> rcases Bool.eq_false_or_eq_true (walB lo hi) with hw | hw
  · have e1 : ibOk s lo hi = true := by simp [ibOk, hp, hw]
    have e2 : ibV s lo hi = beB s lo hi := by rw [ibV, e1, Bool.true_and]
    have HP := Lib.hid hp
    rw [e1, e2]
    clear e1 e2
    go_enter Try.func93, Try.ntmps93
    go_wp2_with (first | (go_at_call 143; refine (paGood_any s _ hs).mono ?_; rintro e w' ⟨rfl, rfl⟩) | (go_at_call 162; refine (HW.out _).mono ?_; rintro e w' ⟨rfl, rfl⟩) | (go_at_call 210; refine (miBetween_ret s lo hi _ HP.out).mono ?_; rintro e w1 ⟨rfl, hb1⟩))
    go_ret2
    exact ⟨rfl, hb1⟩
  all_goals
    have e1 : ibOk s lo hi = false := by simp [ibOk, hp, hw]
    have e2 : ibV s lo hi = false := by rw [ibV, e1, Bool.false_and]
    rw [e1, e2]
    clear e1 e2
    go_enter Try.func93, Try.ntmps93
    go_wp2_with (first | (go_at_call 143; refine (paGood_any s _ hs).mono ?_; rintro e w' ⟨rfl, rfl⟩) | (go_at_call 162; refine (HW.out _).mono ?_; rintro e w' ⟨rfl, rfl⟩))
    go_ret2
    exact ⟨rfl, Below.refl _ _⟩
/-! ### CountFirstPassage -/
def fpOk (n h : Int) : Bool := inB n 1 40 && inB h (-40) 40 && decide (h ≠ 0)
def fpV (n h : Int) : Int := if fpOk n h = true then (toZ n h * (if h < -h then -h else h)).tdiv n else 0
set_option maxHeartbeats 400000 in
theorem specCountFirstPassage_ret (n h : Int) (w : World) : Calls Try.prog 98 #[.int .i64 n, .int .i64 h] w (Ret w (.tuple #[.int .i64 (fpV n h), .bool (fpOk n h)])) := by
  have HI := Lib.hid (in_any n 1 40)
  rcases Bool.eq_false_or_eq_true (inB n 1 40) with hn | hn <;> rcases Bool.eq_false_or_eq_true (inB h (-40) 40) with hi | hi <;> by_cases h0 : h = 0
  rotate_left
  · have e1 : fpOk n h = true := by simp [fpOk, hn, hi, h0]
    have e2 : fpV n h = (toZ n h * (if h < -h then -h else h)).tdiv n := by rw [fpV, if_pos e1]
    obtain ⟨n1, n2⟩ := inB_of hn
    obtain ⟨g1, g2⟩ := inB_of hi
    have HA : Hid (∀ w, Calls Try.prog 211 #[.int .i64 h] w fun e w' => e = .returned (.int .i64 (if h < -h then -h else h)) ∧ w = w') := Lib.hid fun w => absI_any h w (by omega)
    have HT : Hid (∀ w, Calls Try.prog 204 #[.int .i64 n, .int .i64 h] w (Ret w (.int .i64 (toZ n h)))) := Lib.hid fun w => miTo_ret n h w (by omega) (by omega)
    have b1 := toZ_bd n h n2
    have b2 : 0 ≤ (if h < -h then -h else h) ∧ (if h < -h then -h else h) ≤ 40 := by split <;> omega
    have hne : ¬ n = 0 := by omega
    rw [e1, e2]
    clear e1 e2
    generalize (if h < -h then -h else h) = z at *
    generalize toZ n h = t at *
    obtain ⟨b3, b4⟩ := b1
    obtain ⟨b5, b6⟩ := b2
    have b7 : 0 ≤ t * z := Int.mul_nonneg b3 b5
    have b8 : t * z ≤ 1099511627776 * 40 := Int.mul_le_mul b4 b6 b5 (by omega)
    have b9 := Int.tdiv_eq_ediv_of_nonneg (b := n) b7
    have b10 : 0 ≤ (t * z).tdiv n := by rw [b9]; exact Int.ediv_nonneg b7 (by omega)
    have b11 : (t * z).tdiv n ≤ 1099511627776 * 40 := by rw [b9]; exact Int.le_trans (Int.ediv_le_self _ b7) b8
    clear b9
    go_enter Try.func98, Try.ntmps98
    go_wp2_with (first | (go_at_call 173; refine (HI.out _).mono ?_; rintro e w' ⟨rfl, rfl⟩) | (go_at_call 144; refine (miHeight_any h _).mono ?_; rintro e w' ⟨rfl, rfl⟩) | (go_at_call 211; refine (HA.out _).mono ?_; rintro e w' ⟨rfl, rfl⟩) | (go_at_call 204; refine (HT.out _).mono ?_; rintro e w1 ⟨rfl, hb1⟩))
    go_ret2
    exact ⟨rfl, hb1⟩
  all_goals
    have e1 : fpOk n h = false := by simp [fpOk, hn, hi, h0]
    have e2 : fpV n h = 0 := by rw [fpV, e1]; rfl
    rw [e1, e2]
    clear e1 e2
    (try subst h0)
    go_enter Try.func98, Try.ntmps98
    go_wp2_with (first | (go_at_call 173; refine (HI.out _).mono ?_; rintro e w' ⟨rfl, rfl⟩) | (go_at_call 144; refine (miHeight_any _ _).mono ?_; rintro e w' ⟨rfl, rfl⟩))
    go_ret2
    exact ⟨rfl, Below.refl _ _⟩
end Go.Proofs.Ytachijliaedndaa

/- The model's miCount, CountBetween. -/
namespace Go.Proofs.Ytachijliaedndaa
open Go.RowKit
set_option linter.unusedVariables false
theorem two_bd (K W : Int) (hK : -40 ≤ K ∧ K ≤ 40) (hW : -202 ≤ W ∧ W ≤ 202) : -16160 ≤ 2 * K * W ∧ 2 * K * W ≤ 16160 := by
  have h1 : (K * W).natAbs ≤ 40 * 202 := by rw [Int.natAbs_mul]; exact Nat.mul_le_mul (by omega) (by omega)
  rw [Int.mul_assoc]
  omega
set_option maxHeartbeats 800000 in
theorem miCount_ret (n e lo hi : Int) (w : World) (hn : 0 ≤ n ∧ n ≤ 40) (he : -40 ≤ e ∧ e ≤ 40) (hl : -100 ≤ lo ∧ lo ≤ 100) (hh : -100 ≤ hi ∧ hi ≤ 100) :
    Calls Try.prog 200 #[.int .i64 n, .int .i64 e, .int .i64 lo, .int .i64 hi] w (Ret w (.int .i64 (btZ n e lo hi))) := by
  have HI := Lib.hid (in_any e lo hi)
  rcases Bool.eq_false_or_eq_true (inB e lo hi) with hq | hq
  · have e1 : btZ n e lo hi = btTo n e lo hi (2 * n + 1).toNat := by rw [btZ, if_pos hq]
    have HN := Lib.hid hn
    have HE := Lib.hid he
    obtain ⟨n1, n2⟩ := hn
    obtain ⟨g1, g2⟩ := he
    obtain ⟨l1, l2⟩ := hl
    obtain ⟨h1, h2⟩ := hh
    rw [e1]
    clear e1
    go_enter Try.func200, Try.ntmps200
    go_wp2_with (go_at_call 173; refine (HI.out _).mono ?_; rintro e w' ⟨rfl, rfl⟩)
    go_loopw [10, 11] (fun u i wr => ∃ j : Nat, (j : Int) ≤ 2 * n + 1 ∧ i = .int .i64 ((j : Int) - n) ∧ u = .int .i64 (btTo n e lo hi j) ∧ Below w.heap.size w wr) (fun _ i _ => (n + 1 - intOf i).toNat)
    case atStart => exact ⟨0, by omega, by go_num, rfl, Below.refl _ _⟩
    case round =>
      obtain ⟨j, hj, rfl, rfl, hb⟩ := hrel
      by_cases hlt : (j : Int) ≤ 2 * n
      · have hbt := btTo_bd n e lo hi n2 j
        have htb := two_bd ((j : Int) - n) (hi - lo + 2) (by omega) (by omega)
        have HST : Hid (btTo n e lo hi (j + 1) = btTo n e lo hi j + (toZ n (e + 2 * ((j : Int) - n) * (hi - lo + 2)) - toZ n (2 * (hi + 1) - e + 2 * ((j : Int) - n) * (hi - lo + 2)))) := Lib.hid rfl
        have H1 : Hid (∀ w, Calls Try.prog 204 #[.int .i64 n, .int .i64 (e + 2 * ((j : Int) - n) * (hi - lo + 2))] w (Ret w (.int .i64 (toZ n (e + 2 * ((j : Int) - n) * (hi - lo + 2)))))) := Lib.hid fun w => miTo_ret n _ w HN.out (by omega)
        have H2 : Hid (∀ w, Calls Try.prog 204 #[.int .i64 n, .int .i64 (2 * (hi + 1) - e + 2 * ((j : Int) - n) * (hi - lo + 2))] w (Ret w (.int .i64 (toZ n (2 * (hi + 1) - e + 2 * ((j : Int) - n) * (hi - lo + 2)))))) := Lib.hid fun w => miTo_ret n _ w HN.out (by omega)
        have b1 := toZ_bd n (e + 2 * ((j : Int) - n) * (hi - lo + 2)) n2
        have b2 := toZ_bd n (2 * (hi + 1) - e + 2 * ((j : Int) - n) * (hi - lo + 2)) n2
        have d1 : (j : Int) - n ≤ n := by omega
        generalize toZ n (e + 2 * ((j : Int) - n) * (hi - lo + 2)) = z1 at *
        generalize toZ n (2 * (hi + 1) - e + 2 * ((j : Int) - n) * (hi - lo + 2)) = z2 at *
        generalize btTo n e lo hi j = z at *
        have tok1 : True := trivial
        have hacc := hb
        clear hb
        go_wp2_with (first | (have _t := tok1; go_at_call 204; clear _t tok1; refine (H1.out _).mono ?_; rintro e w1 ⟨rfl, hb1⟩; replace hacc := hacc.trans (hb1.mono hacc.size); clear hb1) | (go_at_call 204; refine (H2.out _).mono ?_; rintro e w1 ⟨rfl, hb1⟩; replace hacc := hacc.trans (hb1.mono hacc.size); clear hb1))
        go_roundw
        case rel => exact ⟨j + 1, by omega, by go_num, by rw [HST.out], hacc⟩
        case measure => simp [intOf]; omega
      · have HJ : Hid ((2 * n + 1).toNat = j) := Lib.hid (by omega)
        have d1 : ¬ (j : Int) - n ≤ n := by omega
        go_wp2_with fail
        go_ret
        exact ⟨by rw [HJ.out]; rfl, hb⟩
  · have e1 : btZ n e lo hi = 0 := by rw [btZ, hq]; rfl
    rw [e1]
    clear e1 hn he hl hh
    go_enter Try.func200, Try.ntmps200
    go_wp2_with (go_at_call 173; refine (HI.out _).mono ?_; rintro e w' ⟨rfl, rfl⟩)
    go_ret
    exact ⟨rfl, Below.refl _ _⟩
def cbOk (a b lo hi : Int) : Bool := cntOk a b && walB lo hi
def cbV (a b lo hi : Int) : Int := if cbOk a b lo hi = true then btZ (a + b) (a - b) lo hi else 0
theorem walB_of {l h : Int} (q : walB l h = true) : (-40 ≤ l ∧ l ≤ 0) ∧ (0 ≤ h ∧ h ≤ 40) := by
  unfold walB at q
  rw [Bool.and_eq_true] at q
  exact ⟨inB_of q.1, inB_of q.2⟩
set_option maxHeartbeats 400000 in
theorem specCountBetween_ret (a b lo hi : Int) (w : World) : Calls Try.prog 76 #[.int .i64 a, .int .i64 b, .int .i64 lo, .int .i64 hi] w (Ret w (.tuple #[.int .i64 (cbV a b lo hi), .bool (cbOk a b lo hi)])) := by
  have HW := Lib.hid (miWalls_any lo hi)
  rcases Bool.eq_false_or_eq_true (cntOk a b) with hc | hc <;> rcases Bool.eq_false_or_eq_true (walB lo hi) with hw | hw
  · have e1 : cbOk a b lo hi = true := by simp [cbOk, hc, hw]
    have e2 : cbV a b lo hi = btZ (a + b) (a - b) lo hi := by rw [cbV, if_pos e1]
    obtain ⟨c1, c2, c3⟩ := cntOk_of hc
    have hww := walB_of hw
    have HC : Hid (∀ w, Calls Try.prog 200 #[.int .i64 (a + b), .int .i64 (a - b), .int .i64 lo, .int .i64 hi] w (Ret w (.int .i64 (btZ (a + b) (a - b) lo hi)))) := Lib.hid fun w => miCount_ret _ _ lo hi w (by omega) (by omega) (by omega) (by omega)
    rw [e1, e2]
    clear e1 e2
    go_enter Try.func76, Try.ntmps76
    go_wp2_with (first | (go_at_call 199; refine (steps_any a b _).mono ?_; rintro e w' ⟨rfl, rfl⟩) | (go_at_call 162; refine (HW.out _).mono ?_; rintro e w' ⟨rfl, rfl⟩) | (go_at_call 200; refine (HC.out _).mono ?_; rintro e w1 ⟨rfl, hb1⟩))
    go_ret2
    exact ⟨rfl, hb1⟩
  all_goals
    have e1 : cbOk a b lo hi = false := by simp [cbOk, hc, hw]
    have e2 : cbV a b lo hi = 0 := by rw [cbV, e1]; rfl
    rw [e1, e2]
    clear e1 e2
    go_enter Try.func76, Try.ntmps76
    go_wp2_with (first | (go_at_call 199; refine (steps_any a b _).mono ?_; rintro e w' ⟨rfl, rfl⟩) | (go_at_call 162; refine (HW.out _).mono ?_; rintro e w' ⟨rfl, rfl⟩))
    go_ret2
    exact ⟨rfl, Below.refl _ _⟩
end Go.Proofs.Ytachijliaedndaa
