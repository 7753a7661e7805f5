/- LastReturn: the model. -/
import Derived.Test.YtnlmjeakdjmohaaLrS
namespace Go.Proofs.Ytnlmjeakdjmohaa
open Go.RowKit
set_option linter.unusedVariables false
set_option maxHeartbeats 400000 in
theorem specLastReturn_ret (s : ByteArray) (w : World) (hs : s.size ≤ maxLen) : Calls Try.prog 63 #[.string s] w (Ret w (.tuple #[.int .i64 (laV s 0), .bool (pathB s)])) := by
  rcases Bool.eq_false_or_eq_true (pathB s) with hp | hp
  · have HV := Lib.hid (lrV hp)
    have HP := Lib.hid hp
    rw [hp]
    have HC : Hid (∀ w, Calls Try.prog 104 #[.string s] w (IntsNew w (retsTo s (s.size + 1)))) := Lib.hid fun w => paReturns_ret s w HP.out
    have h40 := ((pathB_iff s).1 hp).1
    have hlen := retsTo_len s (s.size + 1)
    generalize retsTo s (s.size + 1) = L at *
    generalize laV s 0 = V at *
    go_enter Try.func63, Try.ntmps63
    go_wp2_with (first | (go_at_call 98; refine (paGood_any s _ hs).mono ?_; rintro e w' ⟨rfl, rfl⟩) | (go_at_call 104; refine (HC.out _).mono ?_; rintro e w1 ⟨v, rfl, hr, hb⟩; obtain ⟨A, c, rfl⟩ := hr.shape))
    go_loop [4, 6, 13] (fun u a i => ∃ k : Nat, k ≤ L.length ∧ i = .int .i64 (k : Int) ∧ u = .int .i64 (lastTo L k)) (fun _ _ i => L.length - (intOf i).toNat)
    case atStart => exact ⟨0, Nat.zero_le _, rfl, rfl⟩
    case round =>
      obtain ⟨k, hk, rfl, rfl⟩ := hrel
      by_cases hlt : k < L.length
      · obtain ⟨g, c', hv, h1, h2, h3, h4⟩ := hr.form (by omega)
        cases hv
        have hc := hr.cell (j := k) hlt
        have e : lastTo L (k + 1) = L.getD k 0 := rfl
        have HE := Lib.hid e
        generalize L.getD k 0 = x at *
        generalize lastTo L k = y at *
        generalize hll : L.length = len at *
        clear e
        go_wp2
        go_round
        case rel => exact ⟨k + 1, by omega, by go_num, by rw [HE.out]⟩
        case measure => simp [intOf]; omega
      · obtain rfl : k = L.length := by omega
        rw [← HV.out]
        clear hr
        go_wp2
        go_ret2
        exact ⟨rfl, hb⟩
  · rw [hp, lrV_no hp]
    go_enter Try.func63, Try.ntmps63
    go_wp2_with (go_at_call 98; refine (paGood_any s _ hs).mono ?_; rintro e w' ⟨rfl, rfl⟩)
    go_ret2
    exact ⟨rfl, Below.refl _ _⟩
end Go.Proofs.Ytnlmjeakdjmohaa
