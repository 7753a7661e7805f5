/- Pack 9 of what FnBoldPlay needs: LeastMost, RuS. -/
import Derived.Test.YthgblfldncidnaaKFnBoldPlay8
import Derived.RegionTactic
import Derived.Deep.RegionHeld3
import Derived.Deep.QuietTactic
import Derived.BigQuiet
import Derived.IntWalk
import Derived.ChangeAlike
/- l1Least, l1Most. -/
namespace Go.Proofs.Ythgblfldncidnaa
open Go.RowKit
theorem least_any (a b : Int) (w : World) : Calls Try.prog 29 #[.int .i64 a, .int .i64 b] w fun e w' => e = .returned (.int .i64 (if b < a then b else a)) ∧ w = w' := by
  by_cases h : a < b
  · rw [if_neg (by omega)]
    go_enter Try.func29, Try.ntmps29
    go_wp2
    go_ret
    exact ⟨rfl, rfl⟩
  · have e : (if b < a then b else a) = b := by split <;> omega
    rw [e]
    clear e
    go_enter Try.func29, Try.ntmps29
    go_wp2
    go_ret
    exact ⟨rfl, rfl⟩
theorem most_any (a b : Int) (w : World) : Calls Try.prog 16 #[.int .i64 a, .int .i64 b] w fun e w' => e = .returned (.int .i64 (if a < b then b else a)) ∧ w = w' := by
  by_cases h : b < a
  · rw [if_neg (by omega)]
    go_enter Try.func16, Try.ntmps16
    go_wp2
    go_ret
    exact ⟨rfl, rfl⟩
  · have e : (if a < b then b else a) = b := by split <;> omega
    rw [e]
    clear e
    go_enter Try.func16, Try.ntmps16
    go_wp2
    go_ret
    exact ⟨rfl, rfl⟩
end Go.Proofs.Ythgblfldncidnaa

/- The model's ruRatio (any numerator), ruIs, ruPower, ruAsked, ruWin. -/
namespace Go.Proofs.Ythgblfldncidnaa
open Go.RowKit
set_option linter.unusedVariables false
set_option maxHeartbeats 400000 in
theorem absZ_any (n : Int) (w : World) (hn : -9000000000000000000 ≤ n ∧ n ≤ 9000000000000000000) : Calls Try.prog 40 #[.int .i64 n] w fun e w' => e = .returned (.int .i64 (n.natAbs : Nat)) ∧ w = w' := by
  go_enter Try.func40, Try.ntmps40
  go_wp2_with fail
  refine (most_any _ _ _).mono ?_
  rintro e w' ⟨rfl, rfl⟩
  go_wp2_with fail
  all_goals go_ret
  all_goals exact ⟨ret_int (by omega), rfl⟩
theorem tdiv_bd {n : Int} (x : Int) {B : Nat} (h : -(B : Int) ≤ n ∧ n ≤ B) : -(B : Int) ≤ n.tdiv x ∧ n.tdiv x ≤ B := by
  have := Int.natAbs_tdiv_le_natAbs n x
  omega
theorem gcd_stepA {x y g : Nat} (h : Nat.gcd x y = g) : Nat.gcd y (x % y) = g := by
  rw [← h, Nat.gcd_comm x y, Nat.gcd_rec y x, Nat.gcd_comm]
set_option maxHeartbeats 1000000 in
theorem ruRatioZ_any (n q : Int) (w : World) (hn : -9000000000000000000 ≤ n ∧ n ≤ 9000000000000000000) (hq : 0 < q ∧ q ≤ 9000000000000000000) :
    Calls Try.prog 25 #[.int .i64 n, .int .i64 q] w (Ret w (.agg #[.int .i64 (numZ n q), .int .i64 (denZ n q)])) := by
  have hgp : 0 < Nat.gcd n.natAbs q.natAbs := Nat.gcd_pos_of_pos_right _ (by omega)
  have HN : Hid (numZ n q = n.tdiv (Nat.gcd n.natAbs q.natAbs : Nat)) := Lib.hid rfl
  have HD : Hid (denZ n q = q / (Nat.gcd n.natAbs q.natAbs : Nat)) := Lib.hid (Int.tdiv_eq_ediv_of_nonneg (by omega))
  rw [HN.out, HD.out]
  have HAB : Hid (∀ w, Calls Try.prog 40 #[.int .i64 n] w fun e w' => e = .returned (.int .i64 (n.natAbs : Nat)) ∧ w = w') := Lib.hid fun w => absZ_any n w hn
  obtain ⟨p, hp⟩ : ∃ p, n.natAbs = p := ⟨_, rfl⟩
  obtain ⟨r, hr⟩ : ∃ r : Nat, q = (r : Int) := ⟨q.toNat, by omega⟩
  subst hr
  have hp2 : p ≤ 9000000000000000000 := by omega
  have hr2 : r ≤ 9000000000000000000 := by omega
  have hr1 : 0 < r := by omega
  rw [Int.natAbs_natCast] at hgp ⊢
  rw [hp] at HAB hgp ⊢
  obtain ⟨g, hg⟩ : ∃ g, Nat.gcd p r = g := ⟨_, rfl⟩
  rw [hg] at hgp ⊢
  have HGG := Lib.hid hg
  have HNB : Hid (∀ x : Int, -9000000000000000000 ≤ n.tdiv x ∧ n.tdiv x ≤ 9000000000000000000) := Lib.hid fun x => tdiv_bd x (B := 9000000000000000000) hn
  clear HN HD hp hg hn
  go_enter Try.func25, Try.ntmps25
  go_wp2_with (go_at_call 40; refine (HAB.out _).mono ?_; rintro e w' ⟨rfl, rfl⟩)
  go_loopw [5, 6] (fun a b wr => ∃ (x y : Nat), a = .int .i64 (x : Int) ∧ b = .int .i64 (y : Int) ∧ 0 < x + y ∧ x ≤ 9000000000000000000 ∧ y ≤ 9000000000000000000 ∧ Hid (Nat.gcd x y = g) ∧ ∃ n, wr = (w.alloc (.cells #[.int .i64 0, .int .i64 0] 25)).drewN n) (fun _ b _ => (intOf b).toNat)
  case atStart => exact ⟨p, r, rfl, rfl, by omega, hp2, hr2, HGG, 0, rfl⟩
  case round =>
    obtain ⟨x, y, rfl, rfl, hx, hx2, hy2, HG2, n2, rfl⟩ := hrel
    by_cases hy : y = 0
    · subst hy
      have HE : Hid (x = g) := Lib.hid (by have := HG2.out; simpa using this)
      have hx1 : 1 ≤ (x : Int) := by omega
      have hd1 := HNB.out (x : Int)
      have hd2 : 0 ≤ (r : Int) / (x : Int) ∧ (r : Int) / (x : Int) ≤ 9000000000000000000 := ⟨Int.ediv_nonneg (by omega) (by omega), Int.le_trans (Int.ediv_le_self _ (by omega)) (by omega)⟩
      go_wp2
      go_region
      go_wp2
      refine bodyPost_ret (v := .agg #[.int .i64 (n.tdiv (x : Int)), .int .i64 ((r : Int) / (x : Int))]) (by simp [results, Try.results25, go_sem]) rfl ⟨?_, ?_⟩
      · rw [HE.out]
      · exact (((below_drewN ((Below.refl _ _).alloc (Nat.le_refl _) _) _).setCell (Nat.le_refl _) _).setCell (Nat.le_refl _) _)
    · have hb : 0 < (y : Int) := by omega
      have hb0 : ((y : Int) == 0) = false := by simpa using hy
      have hy1 : 1 ≤ (y : Int) := by omega
      have HGS := Lib.hid (gcd_stepA HG2.out)
      have hlt := Nat.mod_lt x (show y > 0 by omega)
      have HM := Lib.hid (cast_mod x y)
      have hyp : 0 < y := by omega
      clear hy
      go_wp2
      go_region
      go_wp2
      go_roundw
      case rel => exact ⟨y, x % y, rfl, by rw [HM.out], by omega, hy2, by omega, HGS, n2 + 1, rfl⟩
      case measure => (show ((x : Int) % (y : Int)).toNat < ((y : Nat) : Int).toNat); rw [HM.out, Int.toNat_natCast, Int.toNat_natCast]; exact hlt
/-- a box of two numbers, and what lies below it -/
def RBox (w : World) (b : Nat) (n d : Int) (W : World) : Prop := W.cell? ⟨b, 0, none⟩ = some (.int .i64 n) ∧ W.cell? ⟨b, 1, none⟩ = some (.int .i64 d) ∧ b < W.heap.size ∧ Below w.heap.size w W
theorem RBox.kept {w W W' : World} {b : Nat} {n d : Int} (h : RBox w b n d W) (hb : Below W.heap.size W W') : RBox w b n d W' :=
  ⟨(hb.cell (p := ⟨b, 0, none⟩) h.2.2.1).trans h.1, (hb.cell (p := ⟨b, 1, none⟩) h.2.2.1).trans h.2.1, Nat.lt_of_lt_of_le h.2.2.1 hb.size, h.2.2.2.trans (hb.mono h.2.2.2.size)⟩
theorem RBox.start (w : World) (n d : Int) : RBox w w.heap.size n d (w.alloc (.cells #[.int .i64 n, .int .i64 d] 25)) := ⟨by simp [go_sem], by simp [go_sem], by simp, (Below.refl _ _).alloc (Nat.le_refl _) _⟩
theorem RBox.drew {w W : World} {b : Nat} {n d : Int} (h : RBox w b n d W) : RBox w b n d W.drew := h.kept (Below.refl _ _).drew
theorem rboxKeep {w W W' : World} {b : Nat} {n d : Int} (h : W.cell? ⟨b, 0, none⟩ = some (.int .i64 n) ∧ W.cell? ⟨b, 1, none⟩ = some (.int .i64 d) ∧ RBox w b n d W) (hb : Below W.heap.size W W') : W'.cell? ⟨b, 0, none⟩ = some (.int .i64 n) ∧ W'.cell? ⟨b, 1, none⟩ = some (.int .i64 d) ∧ RBox w b n d W' :=
  ⟨(h.2.2.kept hb).1, (h.2.2.kept hb).2.1, h.2.2.kept hb⟩
theorem rboxBel {w W : World} {b : Nat} {n d : Int} (h : W.cell? ⟨b, 0, none⟩ = some (.int .i64 n) ∧ W.cell? ⟨b, 1, none⟩ = some (.int .i64 d) ∧ RBox w b n d W) : Below w.heap.size w W := h.2.2.2.2.2
set_option maxRecDepth 100000 in
set_option maxHeartbeats 2000000 in
theorem ruIs_any (n d : Int) (w : World) : Calls Try.prog 39 #[.agg #[.int .i64 n, .int .i64 d]] w (Ret w (.bool (ruB n d))) := by
  have H1 : Hid (∀ w, Calls Try.prog 31 #[.int .i64 d, .int .i64 2, .int .i64 6] w fun e w' => e = .returned (.bool (inBd 2 6 d)) ∧ w = w') := Lib.hid fun w => in_any d 2 6 w
  have H2 : Hid (∀ w, Calls Try.prog 31 #[.int .i64 n, .int .i64 1, .int .i64 (d - 1)] w fun e w' => e = .returned (.bool (inBd 1 (d - 1) n)) ∧ w = w') := Lib.hid fun w => in_any n 1 (d - 1) w
  have hbx := RBox.start w n d
  have c0 := hbx.1
  have c1 := hbx.2.1
  have HB := Lib.hid hbx
  have hb0 := hbx.2.2.2
  clear hbx
  rcases Bool.eq_false_or_eq_true (inBd 2 6 d) with a1 | a1
  · have hd : 2 ≤ d ∧ d ≤ 6 := by unfold inBd at a1; simpa only [Bool.and_eq_true, decide_eq_true_eq] using a1
    rcases Bool.eq_false_or_eq_true (inBd 1 (d - 1) n) with a2 | a2
    · have hn : 1 ≤ n ∧ n ≤ d - 1 := by unfold inBd at a2; simpa only [Bool.and_eq_true, decide_eq_true_eq] using a2
      have HR : Hid (∀ w, Calls Try.prog 25 #[.int .i64 n, .int .i64 d] w (Ret w (.agg #[.int .i64 (numZ n d), .int .i64 (denZ n d)]))) := Lib.hid fun w => ruRatioZ_any n d w (by omega) (by omega)
      have e : ruB n d = (numZ n d == n && denZ n d == d) := by unfold ruB; rw [a1, a2]; rfl
      rw [e]
      have A1 : Hid (inB d 2 6 = true) := Lib.hid a1
      have A2 : Hid (inB n 1 (d - 1) = true) := Lib.hid a2
      generalize numZ n d = x at *
      generalize denZ n d = y at *
      have k1 := IntWalk.i64_in (d - 1) (by omega)
      clear a1 a2 e H1 H2
      by_cases hx : x = n
      · have b1 : (x == n) = true := by rw [beq_iff_eq]; exact hx
        by_cases hy : y = d
        · have b2 : (y == d) = true := by rw [beq_iff_eq]; exact hy
          rw [b1, b2]
          obtain rfl : n = x := hx.symm
          obtain rfl : d = y := hy.symm
          go_enter Try.func39, Try.ntmps39
          go_wp2_with fail
          go_region_held3 (fun W => W.cell? ⟨w.heap.size, 0, none⟩ = some (.int .i64 n) ∧ W.cell? ⟨w.heap.size, 1, none⟩ = some (.int .i64 d) ∧ RBox w w.heap.size n d W) (first | exact ⟨HB.out.drew.1, HB.out.drew.2.1, HB.out.drew⟩ | assumption | exact rboxKeep (by assumption) (by assumption)) (first | (go_at_call 31; refine (in_any _ _ _ _).mono ?_; rintro e w' ⟨rfl, rfl⟩; first | rw [A1.out] | rw [A2.out]) | (go_at_call 25; refine (HR.out _).mono ?_; rintro e w' ⟨rfl, hb'⟩))
          go_wp2_with fail
          go_ret
          exact ⟨rfl, rboxBel (by assumption)⟩
        · have b2 : (y == d) = false := beq_eq_false_iff_ne.2 hy
          rw [b1, b2]
          obtain rfl : n = x := hx.symm
          go_enter Try.func39, Try.ntmps39
          go_wp2_with fail
          go_region_held3 (fun W => W.cell? ⟨w.heap.size, 0, none⟩ = some (.int .i64 n) ∧ W.cell? ⟨w.heap.size, 1, none⟩ = some (.int .i64 d) ∧ RBox w w.heap.size n d W) (first | exact ⟨HB.out.drew.1, HB.out.drew.2.1, HB.out.drew⟩ | assumption | exact rboxKeep (by assumption) (by assumption)) (first | (go_at_call 31; refine (in_any _ _ _ _).mono ?_; rintro e w' ⟨rfl, rfl⟩; first | rw [A1.out] | rw [A2.out]) | (go_at_call 25; refine (HR.out _).mono ?_; rintro e w' ⟨rfl, hb'⟩))
          go_wp2_with fail
          go_ret
          exact ⟨rfl, rboxBel (by assumption)⟩
      · have b1 : (x == n) = false := beq_eq_false_iff_ne.2 hx
        rw [b1]
        go_enter Try.func39, Try.ntmps39
        go_wp2_with fail
        go_region_held3 (fun W => W.cell? ⟨w.heap.size, 0, none⟩ = some (.int .i64 n) ∧ W.cell? ⟨w.heap.size, 1, none⟩ = some (.int .i64 d) ∧ RBox w w.heap.size n d W) (first | exact ⟨HB.out.drew.1, HB.out.drew.2.1, HB.out.drew⟩ | assumption | exact rboxKeep (by assumption) (by assumption)) (first | (go_at_call 31; refine (in_any _ _ _ _).mono ?_; rintro e w' ⟨rfl, rfl⟩; first | rw [A1.out] | rw [A2.out]) | (go_at_call 25; refine (HR.out _).mono ?_; rintro e w' ⟨rfl, hb'⟩))
        go_wp2_with fail
        go_ret
        exact ⟨rfl, rboxBel (by assumption)⟩
    · have e : ruB n d = false := by unfold ruB; rw [a1, a2]; rfl
      rw [e]
      rw [a1] at H1
      rw [a2] at H2
      have k1 := IntWalk.i64_in (d - 1) (by omega)
      clear a1 a2 e
      go_enter Try.func39, Try.ntmps39
      go_wp2_with fail
      go_quiet (((go_at_call 31; first | (with_reducible exact Calls.quiet_of_same (still (H1.out _))) | (with_reducible exact Calls.quiet_of_same (still (H2.out _))))))
      go_wp2_with fail
      go_ret
      exact ⟨rfl, below_drewN hb0 _⟩
  · have e : ruB n d = false := by unfold ruB; rw [a1]; rfl
    rw [e]
    rw [a1] at H1
    clear a1 e H2
    go_enter Try.func39, Try.ntmps39
    go_wp2_with fail
    go_quiet ((go_at_call 31; exact Calls.quiet_of_same (still (H1.out _))))
    go_wp2_with fail
    go_ret
    exact ⟨rfl, below_drewN hb0 _⟩
end Go.Proofs.Ythgblfldncidnaa
