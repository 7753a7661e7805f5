/- Pack 18 of what FnBoldPlay needs: Ratio, RqLaw. -/
import Derived.Test.YthgblfldncidnaaKFnBoldPlay17
import Derived.RegionTactic
import Derived.ChangeAlike
import Derived.Handy
/- lowestTerms, ruRatio; eqRatio. -/
namespace Go.Proofs.Ythgblfldncidnaa
open Go.RowKit
def ratV (x y : Int) : Value := .agg #[.int .i64 x, .int .i64 y]
set_option maxHeartbeats 1000000 in
theorem lowest_any (p q : Nat) (w : World) (hp : p ≤ 70368744177664) (hq : 0 < q ∧ q ≤ 70368744177664) :
    Calls Try.prog 20 #[.int .i64 p, .int .i64 q] w (Ret w (.agg #[.int .i64 (numR p q), .int .i64 (denR p q)])) := by
  have HG : Hid (Nat.gcd q p = Nat.gcd p q) := Lib.hid (Nat.gcd_comm q p)
  have hgp : 0 < Nat.gcd p q := Nat.gcd_pos_of_pos_right p hq.1
  have HN : Hid (numR p q = ((p / Nat.gcd p q : Nat) : Int)) := Lib.hid rfl
  have HD : Hid (denR p q = ((q / Nat.gcd p q : Nat) : Int)) := Lib.hid rfl
  rw [HN.out, HD.out]
  generalize Nat.gcd p q = g at *
  have hq1 := hq.1
  have hq2 := hq.2
  clear hq HN HD
  go_enter Try.func20, Try.ntmps20
  go_wp2
  go_loopw [5, 6] (fun a b wr => ∃ (x y : Nat), a = .int .i64 (x : Int) ∧ b = .int .i64 (y : Int) ∧ 0 < x ∧ x ≤ 70368744177664 ∧ y ≤ 70368744177664 ∧ Hid (Nat.gcd x y = g) ∧ ∃ n, wr = (w.alloc (.cells #[.int .i64 0, .int .i64 0] 25)).drewN n) (fun _ b _ => (intOf b).toNat)
  case atStart => exact ⟨q, p, rfl, rfl, hq1, hq2, hp, HG, 0, rfl⟩
  case round =>
    obtain ⟨x, y, rfl, rfl, hx, hx2, hy2, HG2, n, rfl⟩ := hrel
    by_cases hy : y = 0
    · subst hy
      have HE := Lib.hid (gcd_end HG2.out)
      have hx1 : 1 ≤ (x : Int) := by omega
      have hd1 := div_bd p x hp
      have hd2 := div_bd q x hq2
      go_wp2
      go_region
      go_wp2
      refine bodyPost_ret (v := .agg #[.int .i64 ((p : Int) / (x : Int)), .int .i64 ((q : Int) / (x : Int))]) (by simp [results, Try.results20, go_sem]) rfl ⟨?_, ?_⟩
      · rw [HE.out, cast_div, cast_div]
      · exact (((below_drewN ((Below.refl _ _).alloc (Nat.le_refl _) _) _).setCell (Nat.le_refl _) _).setCell (Nat.le_refl _) _)
    · have hb : ((y : Int) == 0) = false := by simpa using hy
      have hyp : 0 < y := by omega
      have hb2 : ((y : Int) != 0) = true := by simpa using hy
      have hy1 : 1 ≤ (y : Int) := by omega
      have HGS := Lib.hid (gcd_step HG2.out)
      have hlt := Nat.mod_lt x (show y > 0 by omega)
      have HM := Lib.hid (cast_mod x y)
      clear hy
      go_wp2
      go_region
      go_wp2
      go_roundw
      case rel => exact ⟨y, x % y, rfl, by rw [HM.out], by omega, hy2, by omega, HGS, n + 1, rfl⟩
      case measure => (show ((x : Int) % (y : Int)).toNat < ((y : Nat) : Int).toNat); rw [HM.out, Int.toNat_natCast, Int.toNat_natCast]; exact hlt

set_option maxHeartbeats 400000 in
theorem abs_any (p : Nat) (w : World) (hp : p ≤ 70368744177664) : Calls Try.prog 40 #[.int .i64 p] w fun e w' => e = .returned (.int .i64 p) ∧ w = w' := by
  go_enter Try.func40, Try.ntmps40
  go_wp2_with fail
  refine (most_any _ _ _).mono ?_
  rintro e w' ⟨rfl, rfl⟩
  go_wp2_with fail
  go_ret
  exact ⟨ret_int (by first | rfl | (split <;> omega)), rfl⟩
set_option maxHeartbeats 1000000 in
theorem ruRatio_any (p q : Nat) (w : World) (hp : p ≤ 70368744177664) (hq : 0 < q ∧ q ≤ 70368744177664) :
    Calls Try.prog 25 #[.int .i64 p, .int .i64 q] w (Ret w (.agg #[.int .i64 (numR p q), .int .i64 (denR p q)])) := by
  have HG : Hid (Nat.gcd p q = Nat.gcd p q) := Lib.hid rfl
  have hgp : 0 < Nat.gcd p q := Nat.gcd_pos_of_pos_right p hq.1
  have HN : Hid (numR p q = ((p / Nat.gcd p q : Nat) : Int)) := Lib.hid rfl
  have HD : Hid (denR p q = ((q / Nat.gcd p q : Nat) : Int)) := Lib.hid rfl
  rw [HN.out, HD.out]
  have HAB : Hid (∀ w, Calls Try.prog 40 #[.int .i64 p] w fun e w' => e = .returned (.int .i64 p) ∧ w = w') := Lib.hid fun w => abs_any p w hp
  have HG0 : Hid (∃ g, Nat.gcd p q = g) := Lib.hid ⟨_, rfl⟩
  obtain ⟨g, hg⟩ := HG0.out
  rw [hg] at hgp ⊢
  have HGG := Lib.hid hg
  have hq1 := hq.1
  have hq2 := hq.2
  clear hq HN HD HG HG0 hg
  go_enter Try.func25, Try.ntmps25
  go_wp2_with (go_at_call 40; refine (HAB.out _).mono ?_; rintro e w' ⟨rfl, rfl⟩)
  go_loopw [5, 6] (fun a b wr => ∃ (x y : Nat), a = .int .i64 (x : Int) ∧ b = .int .i64 (y : Int) ∧ 0 < x + y ∧ x ≤ 70368744177664 ∧ y ≤ 70368744177664 ∧ Hid (Nat.gcd x y = g) ∧ ∃ n, wr = (w.alloc (.cells #[.int .i64 0, .int .i64 0] 25)).drewN n) (fun _ b _ => (intOf b).toNat)
  case atStart => exact ⟨p, q, rfl, rfl, by omega, hp, hq2, HGG, 0, rfl⟩
  case round =>
    obtain ⟨x, y, rfl, rfl, hx, hx2, hy2, HG2, n, rfl⟩ := hrel
    by_cases hy : y = 0
    · subst hy
      have HE := Lib.hid (gcd_end HG2.out)
      have hx1 : 1 ≤ (x : Int) := by omega
      have hd1 := div_bd p x hp
      have hd2 := div_bd q x hq2
      go_wp2
      go_region
      go_wp2
      refine bodyPost_ret (v := .agg #[.int .i64 ((p : Int) / (x : Int)), .int .i64 ((q : Int) / (x : Int))]) (by simp [results, Try.results25, go_sem]) rfl ⟨?_, ?_⟩
      · rw [HE.out, cast_div, cast_div]
      · exact (((below_drewN ((Below.refl _ _).alloc (Nat.le_refl _) _) _).setCell (Nat.le_refl _) _).setCell (Nat.le_refl _) _)
    · have hb : 0 < (y : Int) := by omega
      have hb0 : ((y : Int) == 0) = false := by simpa using hy
      have hy1 : 1 ≤ (y : Int) := by omega
      have HGS := Lib.hid (gcd_step HG2.out)
      have hlt := Nat.mod_lt x (show y > 0 by omega)
      have HM := Lib.hid (cast_mod x y)
      have hyp : 0 < y := by omega
      clear hy
      go_wp2
      go_region
      go_wp2
      go_roundw
      case rel => exact ⟨y, x % y, rfl, by rw [HM.out], by omega, hy2, by omega, HGS, n + 1, rfl⟩
      case measure => (show ((x : Int) % (y : Int)).toNat < ((y : Nat) : Int).toNat); rw [HM.out, Int.toNat_natCast, Int.toNat_natCast]; exact hlt
end Go.Proofs.Ythgblfldncidnaa

/- The laws' own words on ratios that come in: copies, boxes. -/
namespace Go.Proofs.Ythgblfldncidnaa
open Go.RowKit
set_option linter.unusedVariables false
end Go.Proofs.Ythgblfldncidnaa
