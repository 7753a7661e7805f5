/- The program's lowestTerms (any numerator of at least 0), rest, isLowest, power, sumOf of ints. -/
import Derived.Test.YtahnknbggacndaaRuW
import Derived.Test.YtahnknbggacndaaInList
import Derived.Test.YtahnknbggacndaaKindI
import Derived.Test.YtahnknbggacndaaOneI
import Derived.Test.YtahnknbggacndaaHwMath
namespace Go.Proofs.Ytahnknbggacndaa
open Go.RowKit
set_option linter.unusedVariables false
theorem div_bdZ (p x : Nat) (h : p ≤ 9000000000000000000) : 0 ≤ (p : Int) / (x : Int) ∧ (p : Int) / (x : Int) ≤ 9000000000000000000 := by
  rw [cast_div]
  have := Nat.div_le_self p x
  generalize p / x = z at *
  omega
theorem numZ_nat (p q : Nat) : numZ (p : Int) (q : Int) = ((p / Nat.gcd p q : Nat) : Int) := by
  unfold numZ
  rw [Int.natAbs_natCast, Int.natAbs_natCast, Int.tdiv_eq_ediv_of_nonneg (by omega)]
  exact cast_div _ _
theorem denZ_nat (p q : Nat) : denZ (p : Int) (q : Int) = ((q / Nat.gcd p q : Nat) : Int) := by
  unfold denZ
  rw [Int.natAbs_natCast, Int.natAbs_natCast, Int.tdiv_eq_ediv_of_nonneg (by omega)]
  exact cast_div _ _
set_option maxHeartbeats 1000000 in
theorem lowN_any (p q : Nat) (w : World) (hp : p ≤ 9000000000000000000) (hq : 0 < q ∧ q ≤ 9000000000000000000) :
    Calls Try.prog 110 #[.int .i64 p, .int .i64 q] w (Ret w (.agg #[.int .i64 ((p / Nat.gcd p q : Nat) : Int), .int .i64 ((q / Nat.gcd p q : Nat) : Int)])) := by
  have HG : Hid (Nat.gcd q p = Nat.gcd p q) := Lib.hid (Nat.gcd_comm q p)
  have hgp : 0 < Nat.gcd p q := Nat.gcd_pos_of_pos_right p hq.1
  generalize Nat.gcd p q = g at *
  have hq1 := hq.1
  have hq2 := hq.2
  clear hq
  go_enter Try.func110, Try.ntmps110
  go_wp2
  go_loopw [5, 6] (fun a b wr => ∃ (x y : Nat), a = .int .i64 (x : Int) ∧ b = .int .i64 (y : Int) ∧ 0 < x ∧ x ≤ 9000000000000000000 ∧ y ≤ 9000000000000000000 ∧ Hid (Nat.gcd x y = g) ∧ ∃ n, wr = (w.alloc (.cells #[.int .i64 0, .int .i64 0] 117)).drewN n) (fun _ b _ => (intOf b).toNat)
  case atStart => exact ⟨q, p, rfl, rfl, hq1, hq2, hp, HG, 0, rfl⟩
  case round =>
    obtain ⟨x, y, rfl, rfl, hx, hx2, hy2, HG2, n, rfl⟩ := hrel
    by_cases hy : y = 0
    · subst hy
      have HE := Lib.hid (gcd_end HG2.out)
      have hx1 : 1 ≤ (x : Int) := by omega
      have hd1 := div_bdZ p x hp
      have hd2 := div_bdZ q x hq2
      go_wp2
      go_region
      go_wp2
      refine bodyPost_ret (v := .agg #[.int .i64 ((p : Int) / (x : Int)), .int .i64 ((q : Int) / (x : Int))]) (by simp [results, Try.results110, go_sem]) rfl ⟨?_, ?_⟩
      · rw [HE.out, cast_div, cast_div]
      · exact (((below_drewN ((Below.refl _ _).alloc (Nat.le_refl _) _) _).setCell (Nat.le_refl _) _).setCell (Nat.le_refl _) _)
    · have hb : ((y : Int) == 0) = false := by simpa using hy
      have hyp : 0 < y := by omega
      have hb2 : ((y : Int) != 0) = true := by simpa using hy
      have hy1 : 1 ≤ (y : Int) := by omega
      have HGS := Lib.hid (gcd_step HG2.out)
      have hlt := Nat.mod_lt x (show y > 0 by omega)
      have HM := Lib.hid (cast_mod x y)
      clear hy
      go_wp2
      go_region
      go_wp2
      go_roundw
      case rel => exact ⟨y, x % y, rfl, by rw [HM.out], by omega, hy2, by omega, HGS, n + 1, rfl⟩
      case measure => (show ((x : Int) % (y : Int)).toNat < ((y : Nat) : Int).toNat); rw [HM.out, Int.toNat_natCast, Int.toNat_natCast]; exact hlt
theorem lowZ_any (n q : Int) (w : World) (hn : 0 ≤ n ∧ n ≤ 9000000000000000000) (hq : 0 < q ∧ q ≤ 9000000000000000000) :
    Calls Try.prog 110 #[.int .i64 n, .int .i64 q] w (Ret w (.agg #[.int .i64 (numZ n q), .int .i64 (denZ n q)])) := by
  obtain ⟨p, rfl⟩ := Int.eq_ofNat_of_zero_le hn.1
  obtain ⟨r, rfl⟩ := Int.eq_ofNat_of_zero_le (show 0 ≤ q by omega)
  rw [numZ_nat, denZ_nat]
  exact lowN_any p r w (by omega) (by omega)
/-- the sum of the first k -/
def sumK (xs : List Int) (k : Nat) : Int := sumTo (fun j => xs.getD j 0) k
/-- isWithin of one number, in the world that its slice has made -/
theorem within_one (lo hi x : Int) (w : World) : Calls Try.prog 78 #[.int .i64 lo, .int .i64 hi, .slice (some ⟨w.heap.size, 0, none⟩) 1 1] (w.alloc (.cells #[.int .i64 x] 3)) fun e w' => e = .returned (.bool (inBd lo hi x)) ∧ w.alloc (.cells #[.int .i64 x] 3) = w' := by
  have h := within_any _ [x] lo hi _ (one_ints w x) (by simp)
  rwa [show allB [x] lo hi = inBd lo hi x by simp [allB]] at h
theorem within_two (lo hi x y : Int) (w : World) : Calls Try.prog 78 #[.int .i64 lo, .int .i64 hi, .slice (some ⟨w.heap.size, 0, none⟩) 2 2] (w.alloc (.cells #[.int .i64 x, .int .i64 y] 3)) fun e w' => e = .returned (.bool (inBd lo hi x && inBd lo hi y)) ∧ w.alloc (.cells #[.int .i64 x, .int .i64 y] 3) = w' := by
  have h := within_any _ [x, y] lo hi _ (two_ints w x y) (by simp)
  rwa [show allB [x, y] lo hi = (inBd lo hi x && inBd lo hi y) by simp [allB]] at h
end Go.Proofs.Ytahnknbggacndaa
