/- Pack 9 of what FnRecordsTold needs: RuS, RuW. -/
import Derived.Test.YtachijliaedndaaKFnRecordsTold8
import Derived.RegionTactic
import Derived.Deep.RegionHeld3
import Derived.Deep.QuietTactic
import Derived.BigQuiet
import Derived.IntWalk
import Derived.ChangeAlike
/- The model's ruRatio (any numerator), ruIs, ruPower, ruAsked, ruWin. -/
namespace Go.Proofs.Ytachijliaedndaa
open Go.RowKit
set_option linter.unusedVariables false
set_option maxHeartbeats 400000 in
theorem absZ_any (n : Int) (w : World) (hn : -9000000000000000000 ≤ n ∧ n ≤ 9000000000000000000) : Calls Try.prog 211 #[.int .i64 n] w fun e w' => e = .returned (.int .i64 (n.natAbs : Nat)) ∧ w = w' := by
  go_enter Try.func211, Try.ntmps211
  go_wp2_with fail
  refine (most_any _ _ _).mono ?_
  rintro e w' ⟨rfl, rfl⟩
  go_wp2_with fail
  all_goals go_ret
  all_goals exact ⟨ret_int (by omega), rfl⟩
theorem tdiv_bd {n : Int} (x : Int) {B : Nat} (h : -(B : Int) ≤ n ∧ n ≤ B) : -(B : Int) ≤ n.tdiv x ∧ n.tdiv x ≤ B := by
  have := Int.natAbs_tdiv_le_natAbs n x
  omega
theorem gcd_stepA {x y g : Nat} (h : Nat.gcd x y = g) : Nat.gcd y (x % y) = g := by
  rw [← h, Nat.gcd_comm x y, Nat.gcd_rec y x, Nat.gcd_comm]
set_option maxHeartbeats 1000000 in
theorem ruRatioZ_any (n q : Int) (w : World) (hn : -9000000000000000000 ≤ n ∧ n ≤ 9000000000000000000) (hq : 0 < q ∧ q ≤ 9000000000000000000) :
    Calls Try.prog 171 #[.int .i64 n, .int .i64 q] w (Ret w (.agg #[.int .i64 (numZ n q), .int .i64 (denZ n q)])) := by
  have hgp : 0 < Nat.gcd n.natAbs q.natAbs := Nat.gcd_pos_of_pos_right _ (by omega)
  have HN : Hid (numZ n q = n.tdiv (Nat.gcd n.natAbs q.natAbs : Nat)) := Lib.hid rfl
  have HD : Hid (denZ n q = q / (Nat.gcd n.natAbs q.natAbs : Nat)) := Lib.hid (Int.tdiv_eq_ediv_of_nonneg (by omega))
  rw [HN.out, HD.out]
  have HAB : Hid (∀ w, Calls Try.prog 211 #[.int .i64 n] w fun e w' => e = .returned (.int .i64 (n.natAbs : Nat)) ∧ w = w') := Lib.hid fun w => absZ_any n w hn
  obtain ⟨p, hp⟩ : ∃ p, n.natAbs = p := ⟨_, rfl⟩
  obtain ⟨r, hr⟩ : ∃ r : Nat, q = (r : Int) := ⟨q.toNat, by omega⟩
  subst hr
  have hp2 : p ≤ 9000000000000000000 := by omega
  have hr2 : r ≤ 9000000000000000000 := by omega
  have hr1 : 0 < r := by omega
  rw [Int.natAbs_natCast] at hgp ⊢
  rw [hp] at HAB hgp ⊢
  obtain ⟨g, hg⟩ : ∃ g, Nat.gcd p r = g := ⟨_, rfl⟩
  rw [hg] at hgp ⊢
  have HGG := Lib.hid hg
  have HNB : Hid (∀ x : Int, -9000000000000000000 ≤ n.tdiv x ∧ n.tdiv x ≤ 9000000000000000000) := Lib.hid fun x => tdiv_bd x (B := 9000000000000000000) hn
  clear HN HD hp hg hn
  go_enter Try.func171, Try.ntmps171
  go_wp2_with (go_at_call 211; refine (HAB.out _).mono ?_; rintro e w' ⟨rfl, rfl⟩)
  go_loopw [5, 6] (fun a b wr => ∃ (x y : Nat), a = .int .i64 (x : Int) ∧ b = .int .i64 (y : Int) ∧ 0 < x + y ∧ x ≤ 9000000000000000000 ∧ y ≤ 9000000000000000000 ∧ Hid (Nat.gcd x y = g) ∧ ∃ n, wr = (w.alloc (.cells #[.int .i64 0, .int .i64 0] 42)).drewN n) (fun _ b _ => (intOf b).toNat)
  case atStart => exact ⟨p, r, rfl, rfl, by omega, hp2, hr2, HGG, 0, rfl⟩
  case round =>
    obtain ⟨x, y, rfl, rfl, hx, hx2, hy2, HG2, n2, rfl⟩ := hrel
    by_cases hy : y = 0
    · subst hy
      have HE : Hid (x = g) := Lib.hid (by have := HG2.out; simpa using this)
      have hx1 : 1 ≤ (x : Int) := by omega
      have hd1 := HNB.out (x : Int)
      have hd2 : 0 ≤ (r : Int) / (x : Int) ∧ (r : Int) / (x : Int) ≤ 9000000000000000000 := ⟨Int.ediv_nonneg (by omega) (by omega), Int.le_trans (Int.ediv_le_self _ (by omega)) (by omega)⟩
      go_wp2
      go_region
      go_wp2
      refine bodyPost_ret (v := .agg #[.int .i64 (n.tdiv (x : Int)), .int .i64 ((r : Int) / (x : Int))]) (by simp [results, Try.results171, go_sem]) rfl ⟨?_, ?_⟩
      · rw [HE.out]
      · exact (((below_drewN ((Below.refl _ _).alloc (Nat.le_refl _) _) _).setCell (Nat.le_refl _) _).setCell (Nat.le_refl _) _)
    · have hb : 0 < (y : Int) := by omega
      have hb0 : ((y : Int) == 0) = false := by simpa using hy
      have hy1 : 1 ≤ (y : Int) := by omega
      have HGS := Lib.hid (gcd_stepA HG2.out)
      have hlt := Nat.mod_lt x (show y > 0 by omega)
      have HM := Lib.hid (cast_mod x y)
      have hyp : 0 < y := by omega
      clear hy
      go_wp2
      go_region
      go_wp2
      go_roundw
      case rel => exact ⟨y, x % y, rfl, by rw [HM.out], by omega, hy2, by omega, HGS, n2 + 1, rfl⟩
      case measure => (show ((x : Int) % (y : Int)).toNat < ((y : Nat) : Int).toNat); rw [HM.out, Int.toNat_natCast, Int.toNat_natCast]; exact hlt
/-- a box of two numbers, and what lies below it -/
def RBox (w : World) (b : Nat) (n d : Int) (W : World) : Prop := W.cell? ⟨b, 0, none⟩ = some (.int .i64 n) ∧ W.cell? ⟨b, 1, none⟩ = some (.int .i64 d) ∧ b < W.heap.size ∧ Below w.heap.size w W
theorem RBox.kept {w W W' : World} {b : Nat} {n d : Int} (h : RBox w b n d W) (hb : Below W.heap.size W W') : RBox w b n d W' :=
  ⟨(hb.cell (p := ⟨b, 0, none⟩) h.2.2.1).trans h.1, (hb.cell (p := ⟨b, 1, none⟩) h.2.2.1).trans h.2.1, Nat.lt_of_lt_of_le h.2.2.1 hb.size, h.2.2.2.trans (hb.mono h.2.2.2.size)⟩
theorem RBox.start (w : World) (n d : Int) : RBox w w.heap.size n d (w.alloc (.cells #[.int .i64 n, .int .i64 d] 42)) := ⟨by simp [go_sem], by simp [go_sem], by simp, (Below.refl _ _).alloc (Nat.le_refl _) _⟩
theorem RBox.drew {w W : World} {b : Nat} {n d : Int} (h : RBox w b n d W) : RBox w b n d W.drew := h.kept (Below.refl _ _).drew
theorem rboxKeep {w W W' : World} {b : Nat} {n d : Int} (h : W.cell? ⟨b, 0, none⟩ = some (.int .i64 n) ∧ W.cell? ⟨b, 1, none⟩ = some (.int .i64 d) ∧ RBox w b n d W) (hb : Below W.heap.size W W') : W'.cell? ⟨b, 0, none⟩ = some (.int .i64 n) ∧ W'.cell? ⟨b, 1, none⟩ = some (.int .i64 d) ∧ RBox w b n d W' :=
  ⟨(h.2.2.kept hb).1, (h.2.2.kept hb).2.1, h.2.2.kept hb⟩
theorem rboxBel {w W : World} {b : Nat} {n d : Int} (h : W.cell? ⟨b, 0, none⟩ = some (.int .i64 n) ∧ W.cell? ⟨b, 1, none⟩ = some (.int .i64 d) ∧ RBox w b n d W) : Below w.heap.size w W := h.2.2.2.2.2
set_option maxRecDepth 100000 in
set_option maxHeartbeats 2000000 in
theorem ruIs_any (n d : Int) (w : World) : Calls Try.prog 179 #[.agg #[.int .i64 n, .int .i64 d]] w (Ret w (.bool (ruB n d))) := by
  have H1 : Hid (∀ w, Calls Try.prog 173 #[.int .i64 d, .int .i64 2, .int .i64 6] w fun e w' => e = .returned (.bool (inBd 2 6 d)) ∧ w = w') := Lib.hid fun w => in_any d 2 6 w
  have H2 : Hid (∀ w, Calls Try.prog 173 #[.int .i64 n, .int .i64 1, .int .i64 (d - 1)] w fun e w' => e = .returned (.bool (inBd 1 (d - 1) n)) ∧ w = w') := Lib.hid fun w => in_any n 1 (d - 1) w
  have hbx := RBox.start w n d
  have c0 := hbx.1
  have c1 := hbx.2.1
  have HB := Lib.hid hbx
  have hb0 := hbx.2.2.2
  clear hbx
  rcases Bool.eq_false_or_eq_true (inBd 2 6 d) with a1 | a1
  · have hd : 2 ≤ d ∧ d ≤ 6 := by unfold inBd at a1; simpa only [Bool.and_eq_true, decide_eq_true_eq] using a1
    rcases Bool.eq_false_or_eq_true (inBd 1 (d - 1) n) with a2 | a2
    · have hn : 1 ≤ n ∧ n ≤ d - 1 := by unfold inBd at a2; simpa only [Bool.and_eq_true, decide_eq_true_eq] using a2
      have HR : Hid (∀ w, Calls Try.prog 171 #[.int .i64 n, .int .i64 d] w (Ret w (.agg #[.int .i64 (numZ n d), .int .i64 (denZ n d)]))) := Lib.hid fun w => ruRatioZ_any n d w (by omega) (by omega)
      have e : ruB n d = (numZ n d == n && denZ n d == d) := by unfold ruB; rw [a1, a2]; rfl
      rw [e]
      have A1 : Hid (inB d 2 6 = true) := Lib.hid a1
      have A2 : Hid (inB n 1 (d - 1) = true) := Lib.hid a2
      generalize numZ n d = x at *
      generalize denZ n d = y at *
      have k1 := IntWalk.i64_in (d - 1) (by omega)
      clear a1 a2 e H1 H2
      by_cases hx : x = n
      · have b1 : (x == n) = true := by rw [beq_iff_eq]; exact hx
        by_cases hy : y = d
        · have b2 : (y == d) = true := by rw [beq_iff_eq]; exact hy
          rw [b1, b2]
          obtain rfl : n = x := hx.symm
          obtain rfl : d = y := hy.symm
          go_enter Try.func179, Try.ntmps179
          go_wp2_with fail
          go_region_held3 (fun W => W.cell? ⟨w.heap.size, 0, none⟩ = some (.int .i64 n) ∧ W.cell? ⟨w.heap.size, 1, none⟩ = some (.int .i64 d) ∧ RBox w w.heap.size n d W) (first | exact ⟨HB.out.drew.1, HB.out.drew.2.1, HB.out.drew⟩ | assumption | exact rboxKeep (by assumption) (by assumption)) (first | (go_at_call 173; refine (in_any _ _ _ _).mono ?_; rintro e w' ⟨rfl, rfl⟩; first | rw [A1.out] | rw [A2.out]) | (go_at_call 171; refine (HR.out _).mono ?_; rintro e w' ⟨rfl, hb'⟩))
          go_wp2_with fail
          go_ret
          exact ⟨rfl, rboxBel (by assumption)⟩
        · have b2 : (y == d) = false := beq_eq_false_iff_ne.2 hy
          rw [b1, b2]
          obtain rfl : n = x := hx.symm
          go_enter Try.func179, Try.ntmps179
          go_wp2_with fail
          go_region_held3 (fun W => W.cell? ⟨w.heap.size, 0, none⟩ = some (.int .i64 n) ∧ W.cell? ⟨w.heap.size, 1, none⟩ = some (.int .i64 d) ∧ RBox w w.heap.size n d W) (first | exact ⟨HB.out.drew.1, HB.out.drew.2.1, HB.out.drew⟩ | assumption | exact rboxKeep (by assumption) (by assumption)) (first | (go_at_call 173; refine (in_any _ _ _ _).mono ?_; rintro e w' ⟨rfl, rfl⟩; first | rw [A1.out] | rw [A2.out]) | (go_at_call 171; refine (HR.out _).mono ?_; rintro e w' ⟨rfl, hb'⟩))
          go_wp2_with fail
          go_ret
          exact ⟨rfl, rboxBel (by assumption)⟩
      · have b1 : (x == n) = false := beq_eq_false_iff_ne.2 hx
        rw [b1]
        go_enter Try.func179, Try.ntmps179
        go_wp2_with fail
        go_region_held3 (fun W => W.cell? ⟨w.heap.size, 0, none⟩ = some (.int .i64 n) ∧ W.cell? ⟨w.heap.size, 1, none⟩ = some (.int .i64 d) ∧ RBox w w.heap.size n d W) (first | exact ⟨HB.out.drew.1, HB.out.drew.2.1, HB.out.drew⟩ | assumption | exact rboxKeep (by assumption) (by assumption)) (first | (go_at_call 173; refine (in_any _ _ _ _).mono ?_; rintro e w' ⟨rfl, rfl⟩; first | rw [A1.out] | rw [A2.out]) | (go_at_call 171; refine (HR.out _).mono ?_; rintro e w' ⟨rfl, hb'⟩))
        go_wp2_with fail
        go_ret
        exact ⟨rfl, rboxBel (by assumption)⟩
    · have e : ruB n d = false := by unfold ruB; rw [a1, a2]; rfl
      rw [e]
      rw [a1] at H1
      rw [a2] at H2
      have k1 := IntWalk.i64_in (d - 1) (by omega)
      clear a1 a2 e
      go_enter Try.func179, Try.ntmps179
      go_wp2_with fail
      go_quiet (((go_at_call 173; first | (with_reducible exact Calls.quiet_of_same (still (H1.out _))) | (with_reducible exact Calls.quiet_of_same (still (H2.out _))))))
      go_wp2_with fail
      go_ret
      exact ⟨rfl, below_drewN hb0 _⟩
  · have e : ruB n d = false := by unfold ruB; rw [a1]; rfl
    rw [e]
    rw [a1] at H1
    clear a1 e H2
    go_enter Try.func179, Try.ntmps179
    go_wp2_with fail
    go_quiet ((go_at_call 173; exact Calls.quiet_of_same (still (H1.out _))))
    go_wp2_with fail
    go_ret
    exact ⟨rfl, below_drewN hb0 _⟩
theorem specIsChance_ret (n d : Int) (w : World) : Calls Try.prog 49 #[.agg #[.int .i64 n, .int .i64 d]] w (Ret w (.bool (ruB n d))) := by
  have HA : Hid (∀ w, Calls Try.prog 179 #[.agg #[.int .i64 n, .int .i64 d]] w (Ret w (.bool (ruB n d)))) := Lib.hid fun w => ruIs_any n d w
  have hb0 := (RBox.start w n d).2.2.2
  go_enter Try.func49, Try.ntmps49
  go_wp2_with (go_at_call 179; refine (HA.out _).mono ?_; rintro e wa ⟨rfl, hba⟩)
  go_ret
  exact ⟨rfl, hb0.trans (hba.mono (by simp))⟩
end Go.Proofs.Ytachijliaedndaa

/- The model's ruPower, ruAsked, ruWin. -/
namespace Go.Proofs.Ytachijliaedndaa
open Go.RowKit
set_option linter.unusedVariables false
theorem pow6 {x : Int} (hx : 0 ≤ x ∧ x ≤ 6) {k : Nat} (hk : k ≤ 18) : 0 ≤ x ^ k ∧ x ^ k ≤ 101559956668416 := by
  obtain ⟨a, rfl⟩ := Int.eq_ofNat_of_zero_le hx.1
  rw [← pow_cast]
  have h1 : a ^ k ≤ 6 ^ k := Nat.pow_le_pow_left (by omega) k
  have h2 : (6 : Nat) ^ k ≤ 6 ^ 18 := Nat.pow_le_pow_right (by omega) hk
  have h3 : (6 : Nat) ^ 18 = 101559956668416 := by decide
  omega
set_option maxHeartbeats 800000 in
theorem ruPower_any (x : Int) (n : Nat) (w : World) (hx : 0 ≤ x ∧ x ≤ 6) (hn : n ≤ 18) : Calls Try.prog 180 #[.int .i64 x, .int .i64 (n : Int)] w fun e w' => e = .returned (.int .i64 (x ^ n)) ∧ w = w' := by
  go_enter Try.func180, Try.ntmps180
  go_wp2_with fail
  go_loop [1, 5] (fun m o => ∃ k : Nat, k ≤ n ∧ m = .int .i64 ((n : Int) - k) ∧ o = .int .i64 (x ^ k)) (fun m _ => (intOf m).toNat)
  case atStart => exact ⟨0, Nat.zero_le _, by go_num, by rw [Int.pow_zero]⟩
  case round =>
    obtain ⟨k, hk, rfl, rfl⟩ := hrel
    by_cases hlt : k < n
    · have b1 := pow6 hx (k := k) (by omega)
      have b2 := pow6 hx (k := k + 1) (by omega)
      rw [Int.pow_succ] at b2
      have HP : Hid (x ^ (k + 1) = x ^ k * x) := Lib.hid (Int.pow_succ _ _)
      generalize x ^ k = p at *
      have i1 : 0 < (n : Int) - (k : Int) := by omega
      have HM : Hid ((n : Int) - (k : Int) - 1 = (n : Int) - ((k + 1 : Nat) : Int)) := Lib.hid (by omega)
      go_wp2_with fail
      go_round
      case rel => exact ⟨k + 1, by omega, by rw [HM.out], by rw [HP.out]⟩
      case measure => simp [intOf]; omega
    · obtain rfl : k = n := by omega
      have i1 : ¬ 0 < (k : Int) - (k : Int) := by omega
      go_wp2_with fail
      go_ret
      exact ⟨rfl, rfl⟩
set_option maxHeartbeats 1000000 in
theorem ruAsked_any (i g n d : Int) (w : World) : Calls Try.prog 168 #[.int .i64 i, .int .i64 g, .agg #[.int .i64 n, .int .i64 d]] w (Ret w (.bool (askB i g n d))) := by
  have H1 : Hid (∀ w, Calls Try.prog 173 #[.int .i64 g, .int .i64 1, .int .i64 12] w fun e w' => e = .returned (.bool (inBd 1 12 g)) ∧ w = w') := Lib.hid fun w => in_any g 1 12 w
  have H2 : Hid (∀ w, Calls Try.prog 173 #[.int .i64 i, .int .i64 0, .int .i64 g] w fun e w' => e = .returned (.bool (inBd 0 g i)) ∧ w = w') := Lib.hid fun w => in_any i 0 g w
  have H3 : Hid (∀ w, Calls Try.prog 179 #[.agg #[.int .i64 n, .int .i64 d]] w (Ret w (.bool (ruB n d)))) := Lib.hid fun w => ruIs_any n d w
  have hb0 := (RBox.start w n d).2.2.2
  unfold askB
  generalize ruB n d = b3 at *
  rcases Bool.eq_false_or_eq_true (inBd 1 12 g) with a1 | a1
  · rcases Bool.eq_false_or_eq_true (inBd 0 g i) with a2 | a2
    · rw [a1] at H1 ⊢
      rw [a2] at H2 ⊢
      clear a1 a2
      go_enter Try.func168, Try.ntmps168
      go_wp2_with (first | (go_at_call 173; first | (with_reducible refine (H1.out _).mono ?_; rintro e w' ⟨rfl, rfl⟩) | (with_reducible refine (H2.out _).mono ?_; rintro e w' ⟨rfl, rfl⟩)) | (go_at_call 179; refine (H3.out _).mono ?_; rintro e w' ⟨rfl, hb'⟩))
      go_ret
      exact ⟨by simp, hb0.trans (hb'.mono (by simp))⟩
    · rw [a1] at H1 ⊢
      rw [a2] at H2 ⊢
      clear a1 a2
      go_enter Try.func168, Try.ntmps168
      go_wp2_with (go_at_call 173; first | (with_reducible refine (H1.out _).mono ?_; rintro e w' ⟨rfl, rfl⟩) | (with_reducible refine (H2.out _).mono ?_; rintro e w' ⟨rfl, rfl⟩))
      go_ret
      exact ⟨by simp, hb0⟩
  · rw [a1] at H1 ⊢
    clear a1
    go_enter Try.func168, Try.ntmps168
    go_wp2_with (go_at_call 173; refine (H1.out _).mono ?_; rintro e w' ⟨rfl, rfl⟩)
    go_ret
    exact ⟨by simp, hb0⟩
/-- an empty ratio at b, in a world behind w -/
structure ZBox (w : World) (b : Nat) (W : World) : Prop where
  c0 : W.cell? ⟨b, 0, none⟩ = some (.int .i64 0)
  c1 : W.cell? ⟨b, 1, none⟩ = some (.int .i64 0)
  f0 : W.frozen? ⟨b, 0, none⟩ = false
  f1 : W.frozen? ⟨b, 1, none⟩ = false
  lt : b < W.heap.size
  lo : w.heap.size ≤ b
  below : Below w.heap.size w W
theorem ZBox.kept {w W W' : World} {b : Nat} (h : ZBox w b W) (hb : Below W.heap.size W W') : ZBox w b W' :=
  ⟨(hb.cell (p := ⟨b, 0, none⟩) h.lt).trans h.c0, (hb.cell (p := ⟨b, 1, none⟩) h.lt).trans h.c1, (hb.frozen (p := ⟨b, 0, none⟩) h.lt).trans h.f0, (hb.frozen (p := ⟨b, 1, none⟩) h.lt).trans h.f1, Nat.lt_of_lt_of_le h.lt hb.size, h.lo, h.below.trans (hb.mono h.below.size)⟩
theorem ZBox.start (w : World) (n d : Int) : ZBox w (w.heap.size + 1) ((w.alloc (.cells #[.int .i64 n, .int .i64 d] 42)).alloc (.cells #[.int .i64 0, .int .i64 0] 42)) :=
  ⟨by simp [go_sem], by simp [go_sem], by simp [go_sem], by simp [go_sem], by simp, by omega, ((Below.refl _ _).alloc (Nat.le_refl _) _).alloc (by simp) _⟩
theorem ZBox.done {w W : World} {b : Nat} (h : ZBox w b W) (x y : Int) :
    ((W.setCell ⟨b, 0, none⟩ (.int .i64 x)).setCell ⟨b, 1, none⟩ (.int .i64 y)).cell? ⟨b, 0, none⟩ = some (.int .i64 x) ∧ ((W.setCell ⟨b, 0, none⟩ (.int .i64 x)).setCell ⟨b, 1, none⟩ (.int .i64 y)).cell? ⟨b, 1, none⟩ = some (.int .i64 y) ∧
    Below w.heap.size w ((W.setCell ⟨b, 0, none⟩ (.int .i64 x)).setCell ⟨b, 1, none⟩ (.int .i64 y)) :=
  ⟨(World.cell?_setCell_other _ _ _ _ (by simp)).trans (World.cell?_setCell_same' _ _ _ (by rw [h.c0]; rfl)), World.cell?_setCell_same' _ _ _ (by rw [World.cell?_setCell_other _ _ _ _ (by simp), h.c1]; rfl),
    (h.below.setCell (p := ⟨b, 0, none⟩) h.lo _).setCell (p := ⟨b, 1, none⟩) h.lo _⟩
theorem wp_nameR {P : Program} {c : Code} {Q : Exit → Act → World → Prop} {a : Act} {w : World} (S : World → Prop) (h : S w) (k : ∀ W, S W → c.wp P Q a W) : c.wp P Q a w := k w h
set_option maxRecDepth 100000 in
set_option maxHeartbeats 2000000 in
theorem ruWin_any (i g n d : Int) (w : World) (ha : askB i g n d = true) : Calls Try.prog 169 #[.int .i64 i, .int .i64 g, .agg #[.int .i64 n, .int .i64 d]] w (Ret w (.agg #[.int .i64 (winP i g n d), .int .i64 (winQ i g n d)])) := by
  obtain ⟨h1, h2, h3, h4⟩ := askB_of ha
  have HB := Lib.hid (wn_bd ha)
  have HZ := Lib.hid (ZBox.start w n d)
  by_cases hc : n = d - n
  · have e1 : wnN i g n d = i := by unfold wnN; rw [if_pos hc]
    have e2 : wnD i g n d = g := by unfold wnD; rw [if_pos hc]
    have HR : Hid (∀ w, Calls Try.prog 171 #[.int .i64 i, .int .i64 g] w (Ret w (.agg #[.int .i64 (winP i g n d), .int .i64 (winQ i g n d)]))) := Lib.hid fun w => by
      have := ruRatioZ_any i g w (by omega) (by omega)
      unfold winP winQ
      rw [e1, e2]
      exact this
    generalize winP i g n d = x at *
    generalize winQ i g n d = y at *
    have k1 : (n == d - n) = true := by rw [beq_iff_eq]; exact hc
    have HC := Lib.hid hc
    clear hc e1 e2 ha
    go_enter Try.func169, Try.ntmps169
    go_wp2_with fail
    go_quiet (fail)
    go_wp2_with (go_at_call 171; refine (HR.out _).mono ?_; rintro e wz ⟨rfl, hb'⟩; have hz := (HZ.out.kept (below_drewN (Below.refl _ _) nq)).kept hb'; obtain ⟨z0, z1, hzb⟩ := hz.done x y; have HZB := Lib.hid hzb; have y0 := hz.c0; have y1 := hz.c1; have y2 := hz.f0; have y3 := hz.f1; clear hz hzb hb' HZ)
    refine bodyPost_ret (v := .agg #[.int .i64 x, .int .i64 y]) ?_ rfl ⟨rfl, HZB.out⟩; clear HZB; generalize (wz.setCell ⟨w.heap.size + 1, 0, none⟩ (.int .i64 x)).setCell ⟨w.heap.size + 1, 1, none⟩ (.int .i64 y) = WF at *
    simp [results, Try.f169, go_sem, z0, z1]
  · have e3 := HB.out.2.1
    have HR : Hid (∀ w, Calls Try.prog 171 #[.int .i64 (wnN i g n d), .int .i64 (wnD i g n d)] w (Ret w (.agg #[.int .i64 (winP i g n d), .int .i64 (winQ i g n d)]))) := Lib.hid fun w => ruRatioZ_any (wnN i g n d) (wnD i g n d) w (by have := HB.out.1; omega) (by omega)
    have b1 := HB.out.1
    unfold wnN wnD at HR
    clear e3 b1
    simp only [if_neg hc] at HR
    have k1 : (n == d - n) = false := beq_eq_false_iff_ne.2 hc
    obtain ⟨G, hG⟩ : ∃ G : Nat, g = (G : Int) := ⟨g.toNat, by omega⟩
    obtain ⟨I, hI⟩ : ∃ I : Nat, i = (I : Int) := ⟨i.toNat, by omega⟩
    obtain ⟨J, hJ⟩ : ∃ J : Nat, g - i = (J : Int) := ⟨(g - i).toNat, by omega⟩
    rw [show (g - i).toNat = J by omega, show i.toNat = I by omega, show g.toNat = G by omega] at HR
    have p1 := pow5 (x := n) (by omega) (k := G) (by omega)
    have p2 := pow5 (x := d - n) (by omega) (k := G) (by omega)
    have p3 := pow5 (x := n) (by omega) (k := I) (by omega)
    have p4 := pow5 (x := d - n) (by omega) (k := I) (by omega)
    have p5 := pow5 (x := n) (by omega) (k := J) (by omega)
    have HP : Hid (∀ (x : Int) (k : Nat) (w : World), 0 ≤ x ∧ x ≤ 6 → k ≤ 18 → Calls Try.prog 180 #[.int .i64 x, .int .i64 (k : Int)] w fun e w' => e = .returned (.int .i64 (x ^ k)) ∧ w = w') := Lib.hid ruPower_any
    have P1 : Hid (∀ w, Calls Try.prog 180 #[.int .i64 n, .int .i64 (g - i)] w fun e w' => e = .returned (.int .i64 (n ^ J)) ∧ w = w') := Lib.hid fun w => by rw [hJ]; exact HP.out n J w (by omega) (by omega)
    have P2 : Hid (∀ w, Calls Try.prog 180 #[.int .i64 n, .int .i64 i] w fun e w' => e = .returned (.int .i64 (n ^ I)) ∧ w = w') := Lib.hid fun w => by rw [hI]; exact HP.out n I w (by omega) (by omega)
    have P3 : Hid (∀ w, Calls Try.prog 180 #[.int .i64 (d - n), .int .i64 i] w fun e w' => e = .returned (.int .i64 ((d - n) ^ I)) ∧ w = w') := Lib.hid fun w => by rw [hI]; exact HP.out (d - n) I w (by omega) (by omega)
    have P4 : Hid (∀ w, Calls Try.prog 180 #[.int .i64 n, .int .i64 g] w fun e w' => e = .returned (.int .i64 (n ^ G)) ∧ w = w') := Lib.hid fun w => by rw [hG]; exact HP.out n G w (by omega) (by omega)
    have P5 : Hid (∀ w, Calls Try.prog 180 #[.int .i64 (d - n), .int .i64 g] w fun e w' => e = .returned (.int .i64 ((d - n) ^ G)) ∧ w = w') := Lib.hid fun w => by rw [hG]; exact HP.out (d - n) G w (by omega) (by omega)
    generalize winP i g n d = x at *
    generalize winQ i g n d = y at *
    have p6 : -59604644775390625 ≤ n ^ J * (n ^ I - (d - n) ^ I) ∧ n ^ J * (n ^ I - (d - n) ^ I) ≤ 59604644775390625 := by
      have : (n ^ J * (n ^ I - (d - n) ^ I)).natAbs ≤ 244140625 * 244140625 := by
        rw [Int.natAbs_mul]
        exact Nat.mul_le_mul (by omega) (by omega)
      omega
    clear hJ hG hI HP ha HB hc
    generalize n ^ J = q5 at *
    generalize n ^ I = q3 at *
    generalize (d - n) ^ I = q4 at *
    generalize n ^ G = q1 at *
    generalize (d - n) ^ G = q2 at *
    by_cases hneg : q1 - q2 < 0
    · rw [if_pos hneg, if_pos hneg] at HR
      go_enter Try.func169, Try.ntmps169
      go_wp2_with fail
      go_quiet (fail)
      go_wp2_with fail
      refine (P1.out _).mono ?_
      rintro e w' ⟨rfl, rfl⟩
      go_wp2_with fail
      refine (P2.out _).mono ?_
      rintro e w' ⟨rfl, rfl⟩
      go_wp2_with fail
      refine (P3.out _).mono ?_
      rintro e w' ⟨rfl, rfl⟩
      go_wp2_with fail
      refine (P4.out _).mono ?_
      rintro e w' ⟨rfl, rfl⟩
      go_wp2_with fail
      refine (P5.out _).mono ?_
      rintro e w' ⟨rfl, rfl⟩
      go_wp2_with (go_at_call 171; refine (HR.out _).mono ?_; rintro e wz ⟨rfl, hb'⟩; have hz := (HZ.out.kept (below_drewN (Below.refl _ _) nq)).kept hb'; obtain ⟨z0, z1, hzb⟩ := hz.done x y; have HZB := Lib.hid hzb; have y0 := hz.c0; have y1 := hz.c1; have y2 := hz.f0; have y3 := hz.f1; clear hz hzb hb' HZ)
      refine bodyPost_ret (v := .agg #[.int .i64 x, .int .i64 y]) ?_ rfl ⟨rfl, HZB.out⟩; clear HZB; generalize (wz.setCell ⟨w.heap.size + 1, 0, none⟩ (.int .i64 x)).setCell ⟨w.heap.size + 1, 1, none⟩ (.int .i64 y) = WF at *
      simp [results, Try.f169, go_sem, z0, z1]
    · rw [if_neg hneg, if_neg hneg] at HR
      go_enter Try.func169, Try.ntmps169
      go_wp2_with fail
      go_quiet (fail)
      go_wp2_with fail
      refine (P1.out _).mono ?_
      rintro e w' ⟨rfl, rfl⟩
      go_wp2_with fail
      refine (P2.out _).mono ?_
      rintro e w' ⟨rfl, rfl⟩
      go_wp2_with fail
      refine (P3.out _).mono ?_
      rintro e w' ⟨rfl, rfl⟩
      go_wp2_with fail
      refine (P4.out _).mono ?_
      rintro e w' ⟨rfl, rfl⟩
      go_wp2_with fail
      refine (P5.out _).mono ?_
      rintro e w' ⟨rfl, rfl⟩
      go_wp2_with (go_at_call 171; refine (HR.out _).mono ?_; rintro e wz ⟨rfl, hb'⟩; have hz := (HZ.out.kept (below_drewN (Below.refl _ _) nq)).kept hb'; obtain ⟨z0, z1, hzb⟩ := hz.done x y; have HZB := Lib.hid hzb; have y0 := hz.c0; have y1 := hz.c1; have y2 := hz.f0; have y3 := hz.f1; clear hz hzb hb' HZ)
      refine bodyPost_ret (v := .agg #[.int .i64 x, .int .i64 y]) ?_ rfl ⟨rfl, HZB.out⟩; clear HZB; generalize (wz.setCell ⟨w.heap.size + 1, 0, none⟩ (.int .i64 x)).setCell ⟨w.heap.size + 1, 1, none⟩ (.int .i64 y) = WF at *
      simp [results, Try.f169, go_sem, z0, z1]
end Go.Proofs.Ytachijliaedndaa
