/- The model's AllMixed. -/
import Derived.Test.YtnmmgpmhpjjehaaAkS
import Derived.Test.YtnmmgpmhpjjehaaInB
namespace Go.Proofs.Ytnmmgpmhpjjehaa
open Go.RowKit
set_option linter.unusedVariables false
def amOk (n : Int) : Bool := inB n 0 6
def amV (n : Int) : List ByteArray := if amOk n = true then akL n.toNat 0 else []
theorem amV_len (n : Int) : (amV n).length ≤ 1048577 := by
  unfold amV amOk
  split
  · rename_i h
    unfold inB at h
    simp only [Bool.and_eq_true, decide_eq_true_eq] at h
    have h1 := akL_len n.toNat 0
    have h2 : 3 ^ n.toNat ≤ 3 ^ 6 := Nat.pow_le_pow_right (by omega) (by omega)
    have h3 : (3 : Nat) ^ 6 = 729 := by decide
    omega
  · simp
theorem specAllMixed_ret (n : Int) (w : World) : Calls Try.prog 31 #[.int .i64 n] w (StrsRet w (amOk n) (amV n)) := by
  have HI := Lib.hid (in_any n 0 6)
  rcases Bool.eq_false_or_eq_true (inB n 0 6) with hi | hi
  · have e1 : amOk n = true := hi
    have e2 : amV n = akL n.toNat 0 := by rw [amV, if_pos e1]
    have hb := hi
    unfold inB at hb
    simp only [Bool.and_eq_true, decide_eq_true_eq] at hb
    have HK : Hid (∀ w, Calls Try.prog 79 #[.int .i64 n, .int .i64 0] w fun e w' => ∃ v, e = .returned v ∧ SRow w' w.heap.size v (amV n) ∧ Below w.heap.size w w') := Lib.hid fun w => by
      have := kiAll_any n.toNat 0 w (by omega) (by omega)
      rw [e2]
      rw [show ((n.toNat : Nat) : Int) = n by omega] at this
      exact this
    rw [e1]
    rw [hi] at HI
    clear e1 e2
    generalize amV n = L at *
    go_enter Try.func31, Try.ntmps31
    go_wp2_with (first | (go_at_call 71; refine (HI.out _).mono ?_; rintro e w' ⟨rfl, rfl⟩) | (go_at_call 79; refine (HK.out _).mono ?_; rintro e w1 ⟨v1, rfl, hr1, hb1⟩; obtain ⟨A1, c1, rfl⟩ := hr1.shape))
    go_ret2
    exact ⟨_, rfl, hr1, hb1⟩
  · have e1 : amOk n = false := hi
    have e2 : amV n = [] := by rw [amV, e1]; rfl
    rw [e1, e2]
    rw [hi] at HI
    clear e1 e2
    go_enter Try.func31, Try.ntmps31
    go_wp2_with (go_at_call 71; refine (HI.out _).mono ?_; rintro e w' ⟨rfl, rfl⟩)
    go_ret2
    exact ⟨_, rfl, SRow.nil _ _, Below.refl _ _⟩
end Go.Proofs.Ytnmmgpmhpjjehaa
