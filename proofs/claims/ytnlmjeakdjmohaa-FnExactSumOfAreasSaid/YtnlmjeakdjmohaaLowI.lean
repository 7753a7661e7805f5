/- The program's lowestTerms (any numerator of at least 0), rest, isLowest, power, sumOf of ints. -/
import Derived.Test.YtnlmjeakdjmohaaRuW
import Derived.Test.YtnlmjeakdjmohaaInList
import Derived.Test.YtnlmjeakdjmohaaKindI
import Derived.Test.YtnlmjeakdjmohaaOneI
import Derived.Test.YtnlmjeakdjmohaaHwMath
namespace Go.Proofs.Ytnlmjeakdjmohaa
open Go.RowKit
set_option linter.unusedVariables false
theorem div_bdZ (p x : Nat) (h : p ≤ 9000000000000000000) : 0 ≤ (p : Int) / (x : Int) ∧ (p : Int) / (x : Int) ≤ 9000000000000000000 := by
  rw [cast_div]
  have := Nat.div_le_self p x
  generalize p / x = z at *
  omega
theorem numZ_nat (p q : Nat) : numZ (p : Int) (q : Int) = ((p / Nat.gcd p q : Nat) : Int) := by
  unfold numZ
  rw [Int.natAbs_natCast, Int.natAbs_natCast, Int.tdiv_eq_ediv_of_nonneg (by omega)]
  exact cast_div _ _
theorem denZ_nat (p q : Nat) : denZ (p : Int) (q : Int) = ((q / Nat.gcd p q : Nat) : Int) := by
  unfold denZ
  rw [Int.natAbs_natCast, Int.natAbs_natCast, Int.tdiv_eq_ediv_of_nonneg (by omega)]
  exact cast_div _ _
set_option maxHeartbeats 800000 in
theorem powerN_any (x : Int) (n : Nat) (w : World) (hx : 0 ≤ x ∧ x ≤ 6) (hn : n ≤ 18) : Calls Try.prog 97 #[.int .i64 x, .int .i64 (n : Int)] w fun e w' => e = .returned (.int .i64 (x ^ n)) ∧ w = w' := by
  go_enter Try.func97, Try.ntmps97
  go_wp2_with fail
  go_loop [5, 7] (fun o m => ∃ k : Nat, k ≤ n ∧ m = .int .i64 (k : Int) ∧ o = .int .i64 (x ^ k)) (fun _ m => n - (intOf m).toNat)
  case atStart => exact ⟨0, Nat.zero_le _, rfl, by rw [Int.pow_zero]⟩
  case round =>
    obtain ⟨k, hk, rfl, rfl⟩ := hrel
    by_cases hlt : k < n
    · have b1 := pow6 hx (k := k) (by omega)
      have b2 := pow6 hx (k := k + 1) (by omega)
      rw [Int.pow_succ] at b2
      have HP : Hid (x ^ (k + 1) = x ^ k * x) := Lib.hid (Int.pow_succ _ _)
      generalize x ^ k = p at *
      have i1 : (k : Int) < (n : Int) := by omega
      go_wp2_with fail
      go_round
      case rel => exact ⟨k + 1, by omega, by go_num, by rw [HP.out]⟩
      case measure => first | (simp [intOf]; done) | (simp [intOf]; omega)
    · obtain rfl : k = n := by omega
      have i1 : ¬ (k : Int) < (k : Int) := by omega
      go_wp2_with fail
      go_ret
      exact ⟨rfl, rfl⟩
theorem power_any (x k : Int) (w : World) (hx : 0 ≤ x ∧ x ≤ 6) (hk : 0 ≤ k ∧ k ≤ 18) : Calls Try.prog 97 #[.int .i64 x, .int .i64 k] w fun e w' => e = .returned (.int .i64 (x ^ k.toNat)) ∧ w = w' := by
  obtain ⟨n, rfl⟩ := Int.eq_ofNat_of_zero_le hk.1
  rw [Int.toNat_natCast]
  exact powerN_any x n w hx (by omega)
/-- the sum of the first k -/
def sumK (xs : List Int) (k : Nat) : Int := sumTo (fun j => xs.getD j 0) k
/-- isWithin of one number, in the world that its slice has made -/
theorem within_one (lo hi x : Int) (w : World) : Calls Try.prog 130 #[.int .i64 lo, .int .i64 hi, .slice (some ⟨w.heap.size, 0, none⟩) 1 1] (w.alloc (.cells #[.int .i64 x] 3)) fun e w' => e = .returned (.bool (inBd lo hi x)) ∧ w.alloc (.cells #[.int .i64 x] 3) = w' := by
  have h := within_any _ [x] lo hi _ (one_ints w x) (by simp)
  rwa [show allB [x] lo hi = inBd lo hi x by simp [allB]] at h
theorem within_two (lo hi x y : Int) (w : World) : Calls Try.prog 130 #[.int .i64 lo, .int .i64 hi, .slice (some ⟨w.heap.size, 0, none⟩) 2 2] (w.alloc (.cells #[.int .i64 x, .int .i64 y] 3)) fun e w' => e = .returned (.bool (inBd lo hi x && inBd lo hi y)) ∧ w.alloc (.cells #[.int .i64 x, .int .i64 y] 3) = w' := by
  have h := within_any _ [x, y] lo hi _ (two_ints w x y) (by simp)
  rwa [show allB [x, y] lo hi = (inBd lo hi x && inBd lo hi y) by simp [allB]] at h
end Go.Proofs.Ytnlmjeakdjmohaa
