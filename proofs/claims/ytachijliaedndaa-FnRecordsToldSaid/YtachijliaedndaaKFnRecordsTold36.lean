/- Pack 36 of what FnRecordsTold needs: LrS, LrM. -/
import Derived.Test.YtachijliaedndaaKFnRecordsTold35
/- LastReturn: both sides. -/
namespace Go.Proofs.Ytachijliaedndaa
open Go.RowKit
set_option linter.unusedVariables false
def lastTo (L : List Int) : Nat → Int
  | 0 => 0
  | j + 1 => L.getD j 0
theorem lastTo_app (L : List Int) (x : Int) : lastTo (L ++ [x]) (L ++ [x]).length = x := by
  rw [List.length_append]
  show (L ++ [x]).getD L.length 0 = x
  simp
theorem last_ret (s : ByteArray) : ∀ k : Nat, laTo s 0 (k + 1) = lastTo (retsTo s (k + 1)) (retsTo s (k + 1)).length
  | 0 => by
    have h0 : hAt s 0 = 0 := rfl
    rw [laTo, if_pos h0, retsTo_no (rt_no1 (by omega))]
    rfl
  | k + 1 => by
    rw [laTo]
    by_cases h : hAt s (k + 1) = 0
    · rw [if_pos h, retsTo_yes (rt_yes (by omega) (by rw [h]; rfl)), lastTo_app]
    · rw [if_neg h, last_ret s k, retsTo_no (k := k + 1) (rt_no2 (beq_eq_false_iff_ne.2 h))]
theorem laTo_nn (s : ByteArray) : ∀ k : Nat, 0 ≤ laTo s 0 (k + 1)
  | 0 => by
    have h0 : hAt s 0 = 0 := rfl
    rw [laTo, if_pos h0]
    omega
  | k + 1 => by
    rw [laTo]
    split
    · omega
    · exact laTo_nn s k
theorem lrOk (s : ByteArray) : laOk s 0 = pathB s := by
  unfold laOk laZ
  rw [decide_eq_true (laTo_nn s s.size), show inB 0 (-40) 40 = true by decide, Bool.and_true, Bool.and_true]
theorem lrV {s : ByteArray} (hp : pathB s = true) : laV s 0 = lastTo (retsTo s (s.size + 1)) (retsTo s (s.size + 1)).length := by
  unfold laV
  rw [lrOk, if_pos hp]
  exact last_ret s s.size
theorem lrV_no {s : ByteArray} (hp : pathB s = false) : laV s 0 = 0 := by
  unfold laV
  rw [lrOk, hp]
  rfl
theorem lastReturnI_ret (s : ByteArray) (w : World) (hs : s.size ≤ maxLen) : Calls Try.prog 55 #[.string s] w (Ret w (.tuple #[.int .i64 (laV s 0), .bool (pathB s)])) := by
  rw [← lrOk]
  go_enter Try.func55, Try.ntmps55
  go_wp2_with (go_at_call 17; refine (lastAt_ret s 0 _ hs).mono ?_; rintro e w1 ⟨rfl, hb⟩)
  go_ret2
  exact ⟨rfl, hb⟩
end Go.Proofs.Ytachijliaedndaa

/- LastReturn: the model. -/
namespace Go.Proofs.Ytachijliaedndaa
open Go.RowKit
set_option linter.unusedVariables false
set_option maxHeartbeats 400000 in
theorem specLastReturn_ret (s : ByteArray) (w : World) (hs : s.size ≤ maxLen) : Calls Try.prog 56 #[.string s] w (Ret w (.tuple #[.int .i64 (laV s 0), .bool (pathB s)])) := by
  rcases Bool.eq_false_or_eq_true (pathB s) with hp | hp
  · have HV := Lib.hid (lrV hp)
    have HP := Lib.hid hp
    rw [hp]
    have HC : Hid (∀ w, Calls Try.prog 188 #[.string s] w (IntsNew w (retsTo s (s.size + 1)))) := Lib.hid fun w => paReturns_ret s w HP.out
    have h40 := ((pathB_iff s).1 hp).1
    have hlen := retsTo_len s (s.size + 1)
    generalize retsTo s (s.size + 1) = L at *
    generalize laV s 0 = V at *
    go_enter Try.func56, Try.ntmps56
    go_wp2_with (first | (go_at_call 143; refine (paGood_any s _ hs).mono ?_; rintro e w' ⟨rfl, rfl⟩) | (go_at_call 188; refine (HC.out _).mono ?_; rintro e w1 ⟨v, rfl, hr, hb⟩; obtain ⟨A, c, rfl⟩ := hr.shape))
    go_loop [4, 6, 13] (fun u a i => ∃ k : Nat, k ≤ L.length ∧ i = .int .i64 (k : Int) ∧ u = .int .i64 (lastTo L k)) (fun _ _ i => L.length - (intOf i).toNat)
    case atStart => exact ⟨0, Nat.zero_le _, rfl, rfl⟩
    case round =>
      obtain ⟨k, hk, rfl, rfl⟩ := hrel
      by_cases hlt : k < L.length
      · obtain ⟨g, c', hv, h1, h2, h3, h4⟩ := hr.form (by omega)
        cases hv
        have hc := hr.cell (j := k) hlt
        have e : lastTo L (k + 1) = L.getD k 0 := rfl
        have HE := Lib.hid e
        generalize L.getD k 0 = x at *
        generalize lastTo L k = y at *
        generalize hll : L.length = len at *
        clear e
        go_wp2
        go_round
        case rel => exact ⟨k + 1, by omega, by go_num, by rw [HE.out]⟩
        case measure => simp [intOf]; omega
      · obtain rfl : k = L.length := by omega
        rw [← HV.out]
        clear hr
        go_wp2
        go_ret2
        exact ⟨rfl, hb⟩
  · rw [hp, lrV_no hp]
    go_enter Try.func56, Try.ntmps56
    go_wp2_with (go_at_call 143; refine (paGood_any s _ hs).mono ?_; rintro e w' ⟨rfl, rfl⟩)
    go_ret2
    exact ⟨rfl, Below.refl _ _⟩
end Go.Proofs.Ytachijliaedndaa
