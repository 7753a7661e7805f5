/- Pack 7 of what FnFansAndCubes needs: InB, FanS, RuMath. -/
import Derived.Test.YtmfcknlpbliehabKFnFansAndCubes6
import Derived.RegionTactic
import Derived.ChangeAlike
import Derived.Deep.RegionHeld3
import Derived.Deep.QuietTactic
import Derived.BigQuiet
import Derived.IntWalk
/- l1In: whether a number lies between two. -/
namespace Go.Proofs.Ytmfcknlpbliehab
open Go.RowKit
def inB (a lo hi : Int) : Bool := decide (lo ≤ a) && decide (a ≤ hi)
theorem inB_yes {a lo hi : Int} (h : lo ≤ a ∧ a ≤ hi) : inB a lo hi = true := by simp [inB, h]
theorem inB_no {a lo hi : Int} (h : ¬ (lo ≤ a ∧ a ≤ hi)) : inB a lo hi = false := by
  rw [Bool.eq_false_iff]; intro e; simp [inB] at e; exact h e
set_option maxHeartbeats 400000 in
theorem in_any (a lo hi : Int) (w : World) : Calls Try.prog 47 #[.int .i64 a, .int .i64 lo, .int .i64 hi] w fun e w' => e = .returned (.bool (inB a lo hi)) ∧ w = w' := by
  by_cases h1 : lo ≤ a
  · by_cases h2 : a ≤ hi
    · rw [inB_yes ⟨h1, h2⟩]
      go_enter Try.func47, Try.ntmps47
      go_wp2
      go_ret
      exact ⟨rfl, rfl⟩
    · rw [inB_no (fun h => h2 h.2)]
      go_enter Try.func47, Try.ntmps47
      go_wp2
      go_ret
      exact ⟨rfl, rfl⟩
  · rw [inB_no (fun h => h1 h.1)]
    go_enter Try.func47, Try.ntmps47
    go_wp2
    go_ret
    exact ⟨rfl, rfl⟩
end Go.Proofs.Ytmfcknlpbliehab

/- The model's ncCommon, times, CountFans. -/
namespace Go.Proofs.Ytmfcknlpbliehab
open Go.RowKit
set_option linter.unusedVariables false
set_option maxHeartbeats 1000000 in
theorem ncCommon_any (p q : Nat) (w : World) (hp : p ≤ 100000000000) (hq : q ≤ 100000000000) : Calls Try.prog 66 #[.int .i64 (p : Int), .int .i64 (q : Int)] w (Ret w (.int .i64 ((Nat.gcd p q : Nat) : Int))) := by
  obtain ⟨g, hg⟩ : ∃ g, Nat.gcd p q = g := ⟨_, rfl⟩
  rw [hg]
  have HG := Lib.hid hg
  clear hg
  go_enter Try.func66, Try.ntmps66
  go_wp2
  go_loopw [0, 1] (fun a b wr => ∃ (x y : Nat), a = .int .i64 (x : Int) ∧ b = .int .i64 (y : Int) ∧ x ≤ 100000000000 ∧ y ≤ 100000000000 ∧ Hid (Nat.gcd x y = g) ∧ ∃ n, wr = w.drewN n) (fun _ b _ => (intOf b).toNat)
  case atStart => exact ⟨p, q, rfl, rfl, hp, hq, HG, 0, rfl⟩
  case round =>
    obtain ⟨x, y, rfl, rfl, hx2, hy2, HG2, n, rfl⟩ := hrel
    by_cases hy : y = 0
    · subst hy
      have HE := Lib.hid (gcd_end HG2.out)
      go_wp2
      go_ret
      exact ⟨ret_int (by rw [HE.out]), below_drewN (Below.refl _ _) _⟩
    · have hyp : 0 < y := by omega
      have hy1 : 0 < (y : Int) := by omega
      have hb2 : ((y : Int) == 0) = false := by simpa using hy
      have HGS := Lib.hid (gcd_step HG2.out)
      have hlt := Nat.mod_lt x (show y > 0 by omega)
      have HM := Lib.hid (cast_mod x y)
      clear hy
      go_wp2
      go_region
      go_wp2
      go_roundw
      case rel => exact ⟨y, x % y, rfl, by rw [HM.out], hy2, by omega, HGS, n + 1, rfl⟩
      case measure => (show ((x : Int) % (y : Int)).toNat < ((y : Nat) : Int).toNat); rw [HM.out, Int.toNat_natCast, Int.toNat_natCast]; exact hlt
/-- a product in its box, and an empty one behind it -/
structure FZ (w : World) (a b : Int) (W : World) : Prop where
  r0 : W.cell? ⟨w.heap.size, 0, none⟩ = some (.int .i64 a)
  r1 : W.cell? ⟨w.heap.size, 1, none⟩ = some (.int .i64 b)
  z0 : W.cell? ⟨w.heap.size + 1, 0, none⟩ = some (.int .i64 0)
  z1 : W.cell? ⟨w.heap.size + 1, 1, none⟩ = some (.int .i64 0)
  f0 : W.frozen? ⟨w.heap.size + 1, 0, none⟩ = false
  f1 : W.frozen? ⟨w.heap.size + 1, 1, none⟩ = false
  lt : w.heap.size + 1 < W.heap.size
  below : Below w.heap.size w W
theorem FZ.kept {w W W' : World} {a b : Int} (h : FZ w a b W) (hb : Below W.heap.size W W') : FZ w a b W' :=
  ⟨(hb.cell (p := ⟨w.heap.size, 0, none⟩) (Nat.lt_of_succ_lt h.lt)).trans h.r0, (hb.cell (p := ⟨w.heap.size, 1, none⟩) (Nat.lt_of_succ_lt h.lt)).trans h.r1, (hb.cell (p := ⟨w.heap.size + 1, 0, none⟩) h.lt).trans h.z0, (hb.cell (p := ⟨w.heap.size + 1, 1, none⟩) h.lt).trans h.z1, (hb.frozen (p := ⟨w.heap.size + 1, 0, none⟩) h.lt).trans h.f0, (hb.frozen (p := ⟨w.heap.size + 1, 1, none⟩) h.lt).trans h.f1, Nat.lt_of_lt_of_le h.lt hb.size, h.below.trans (hb.mono h.below.size)⟩
theorem FZ.start (w : World) (a b : Int) : FZ w a b ((w.alloc (.cells #[.int .i64 a, .int .i64 b] 75)).alloc (.cells #[.int .i64 0, .int .i64 0] 75)) :=
  ⟨by simp [go_sem], by simp [go_sem], by simp [go_sem], by simp [go_sem], by simp [go_sem], by simp [go_sem], by simp, ((Below.refl _ _).alloc (Nat.le_refl _) _).alloc (by simp) _⟩
theorem FZ.done {w W : World} {a b : Int} (h : FZ w a b W) (x y : Int) :
    ((W.setCell ⟨w.heap.size + 1, 0, none⟩ (.int .i64 x)).setCell ⟨w.heap.size + 1, 1, none⟩ (.int .i64 y)).cell? ⟨w.heap.size + 1, 0, none⟩ = some (.int .i64 x) ∧ ((W.setCell ⟨w.heap.size + 1, 0, none⟩ (.int .i64 x)).setCell ⟨w.heap.size + 1, 1, none⟩ (.int .i64 y)).cell? ⟨w.heap.size + 1, 1, none⟩ = some (.int .i64 y) ∧
    Below w.heap.size w ((W.setCell ⟨w.heap.size + 1, 0, none⟩ (.int .i64 x)).setCell ⟨w.heap.size + 1, 1, none⟩ (.int .i64 y)) :=
  ⟨(World.cell?_setCell_other _ _ _ _ (by simp)).trans (World.cell?_setCell_same' _ _ _ (by rw [h.z0]; rfl)), World.cell?_setCell_same' _ _ _ (by rw [World.cell?_setCell_other _ _ _ _ (by simp), h.z1]; rfl),
    (h.below.setCell (p := ⟨w.heap.size + 1, 0, none⟩) (by show w.heap.size ≤ w.heap.size + 1; omega) _).setCell (p := ⟨w.heap.size + 1, 1, none⟩) (by show w.heap.size ≤ w.heap.size + 1; omega) _⟩
theorem fzKeep {w W W' : World} {a b : Int} (h : W.cell? ⟨w.heap.size, 0, none⟩ = some (.int .i64 a) ∧ W.cell? ⟨w.heap.size, 1, none⟩ = some (.int .i64 b) ∧ FZ w a b W) (hb : Below W.heap.size W W') : W'.cell? ⟨w.heap.size, 0, none⟩ = some (.int .i64 a) ∧ W'.cell? ⟨w.heap.size, 1, none⟩ = some (.int .i64 b) ∧ FZ w a b W' := ⟨(h.2.2.kept hb).r0, (h.2.2.kept hb).r1, h.2.2.kept hb⟩
theorem fzMk {w W : World} {a b : Int} (h : FZ w a b W) : W.cell? ⟨w.heap.size, 0, none⟩ = some (.int .i64 a) ∧ W.cell? ⟨w.heap.size, 1, none⟩ = some (.int .i64 b) ∧ FZ w a b W := ⟨h.r0, h.r1, h⟩
theorem FZ.drew {w W : World} {a b : Int} (h : FZ w a b W) : FZ w a b W.drew := h.kept (Below.refl _ _).drew
theorem fzOf {w W : World} {a b : Int} (h : W.cell? ⟨w.heap.size, 0, none⟩ = some (.int .i64 a) ∧ W.cell? ⟨w.heap.size, 1, none⟩ = some (.int .i64 b) ∧ FZ w a b W) : FZ w a b W := h.2.2
theorem div_small {p g B : Nat} (h : p ≤ B) : 0 ≤ ((p / g : Nat) : Int) ∧ ((p / g : Nat) : Int) ≤ (B : Int) := by
  have hk := Nat.div_le_self p g
  generalize p / g = k at *
  exact ⟨Int.natCast_nonneg k, Int.ofNat_le.mpr (Nat.le_trans hk h)⟩
theorem mul_small {x y : Int} {A B : Nat} (h : 0 ≤ x ∧ x ≤ (A : Int)) (h' : 0 ≤ y ∧ y ≤ (B : Int)) : 0 ≤ x * y ∧ x * y ≤ (A : Int) * (B : Int) := ⟨Int.mul_nonneg h.1 h'.1, Int.mul_le_mul h.2 h'.2 h'.1 (Int.le_trans h.1 h.2)⟩
theorem cast_mul (x y : Nat) : ((x * y : Nat) : Int) = (x : Int) * (y : Int) := Int.natCast_mul x y
set_option maxRecDepth 100000 in
set_option maxHeartbeats 2000000 in
theorem times_any (a b p q : Nat) (w : World) (ha : 1 ≤ a ∧ a ≤ 100000000000) (hb : 1 ≤ b ∧ b ≤ 100000000000) (hp : 1 ≤ p ∧ p ≤ 100) (hq : 1 ≤ q ∧ q ≤ 100) :
    Calls Try.prog 52 #[.agg #[.int .i64 (a : Int), .int .i64 (b : Int)], .int .i64 (p : Int), .int .i64 (q : Int)] w (Ret w (.agg #[.int .i64 (((tms (a, b) p q).1 : Nat) : Int), .int .i64 (((tms (a, b) p q).2 : Nat) : Int)])) := by
  have HX := Lib.hid (FZ.start w (a : Int) (b : Int))
  have hg0 : 0 < Nat.gcd p q := Nat.gcd_pos_of_pos_left q hp.1
  have HO : Hid (∀ w, Calls Try.prog 66 #[.int .i64 (p : Int), .int .i64 (q : Int)] w (Ret w (.int .i64 ((Nat.gcd p q : Nat) : Int)))) := Lib.hid fun w => ncCommon_any p q w (by omega) (by omega)
  unfold tms
  simp only
  generalize Nat.gcd p q = g at *
  have HP : Hid ((p : Int) / (g : Int) = ((p / g : Nat) : Int)) := Lib.hid (cast_div p g)
  have HQ : Hid ((q : Int) / (g : Int) = ((q / g : Nat) : Int)) := Lib.hid (cast_div q g)
  have dp := Nat.div_le_self p g
  have dq := Nat.div_le_self q g
  generalize p / g = p' at *
  generalize q / g = q' at *
  have HA : Hid (∀ w, Calls Try.prog 66 #[.int .i64 (a : Int), .int .i64 (q' : Int)] w (Ret w (.int .i64 ((Nat.gcd a q' : Nat) : Int)))) := Lib.hid fun w => ncCommon_any a q' w (by omega) (by omega)
  have HB : Hid (∀ w, Calls Try.prog 66 #[.int .i64 (p' : Int), .int .i64 (b : Int)] w (Ret w (.int .i64 ((Nat.gcd p' b : Nat) : Int)))) := Lib.hid fun w => ncCommon_any p' b w (by omega) (by omega)
  have hga : 0 < Nat.gcd a q' := Nat.gcd_pos_of_pos_left q' ha.1
  have hgb : 0 < Nat.gcd p' b := Nat.gcd_pos_of_pos_right p' hb.1
  generalize Nat.gcd a q' = u at *
  generalize Nat.gcd p' b = v at *
  have m1 := mul_small (div_small (g := u) (show a ≤ 100000000000 by omega)) (div_small (g := v) (show p' ≤ 100 by omega))
  have m2 := mul_small (div_small (g := v) (show b ≤ 100000000000 by omega)) (div_small (g := u) (show q' ≤ 100 by omega))
  rw [cast_mul, cast_mul]
  have E1 : Hid ((a : Int) / (u : Int) = ((a / u : Nat) : Int)) := Lib.hid (cast_div a u)
  have E2 : Hid ((p' : Int) / (v : Int) = ((p' / v : Nat) : Int)) := Lib.hid (cast_div p' v)
  have E3 : Hid ((b : Int) / (v : Int) = ((b / v : Nat) : Int)) := Lib.hid (cast_div b v)
  have E4 : Hid ((q' : Int) / (u : Int) = ((q' / u : Nat) : Int)) := Lib.hid (cast_div q' u)
  have W1 : Hid (wrap64 ((a : Int) / (u : Int) * ((p' : Int) / (v : Int))) = (a : Int) / (u : Int) * ((p' : Int) / (v : Int))) := Lib.hid (IntWalk.wrap64_in _ (by rw [E1.out, E2.out]; exact ⟨Int.le_trans (by omega) m1.1, Int.le_trans m1.2 (by omega)⟩))
  have W2 : Hid (wrap64 ((b : Int) / (v : Int) * ((q' : Int) / (u : Int))) = (b : Int) / (v : Int) * ((q' : Int) / (u : Int))) := Lib.hid (IntWalk.wrap64_in _ (by rw [E3.out, E4.out]; exact ⟨Int.le_trans (by omega) m2.1, Int.le_trans m2.2 (by omega)⟩))
  clear m1 m2
  have l1 := div_small (g := u) (show a ≤ 100000000000 by omega)
  have l2 := div_small (g := v) (show p' ≤ 100 by omega)
  have l3 := div_small (g := v) (show b ≤ 100000000000 by omega)
  have l4 := div_small (g := u) (show q' ≤ 100 by omega)
  have h0 := hg0
  have h1 : 1 ≤ (g : Int) := by omega
  have h2 : 1 ≤ (u : Int) := by omega
  have h3 : 1 ≤ (v : Int) := by omega
  have d1 : 0 ≤ ((p : Int) / (g : Int)) ∧ ((p : Int) / (g : Int)) ≤ 100 := by rw [HP.out]; omega
  have d2 : 0 ≤ ((q : Int) / (g : Int)) ∧ ((q : Int) / (g : Int)) ≤ 100 := by rw [HQ.out]; omega
  go_enter Try.func52, Try.ntmps52
  go_wp2_with (go_at_call 66; refine (HO.out _).mono ?_; rintro e w4 ⟨rfl, hb4⟩)
  rw [HP.out, HQ.out]
  have HX4 := Lib.hid (HX.out.kept hb4)
  have c0 := HX4.out.r0
  have c1 := HX4.out.r1
  clear HX
  go_region_held3 (fun X => X.cell? ⟨w.heap.size, 0, none⟩ = some (.int .i64 (a : Int)) ∧ X.cell? ⟨w.heap.size, 1, none⟩ = some (.int .i64 (b : Int)) ∧ FZ w (a : Int) (b : Int) X) (first | exact fzMk HX4.out.drew | assumption | (refine fzKeep (W := _) ?_ hb5; assumption)) (first | (go_at_call 66; first | ((with_reducible refine (HA.out _).mono ?_); rintro e w5 ⟨rfl, hb5⟩) | ((with_reducible refine (HB.out _).mono ?_); rintro e w5 ⟨rfl, hb5⟩)))
  have HX5 := Lib.hid (fzOf (by assumption))
  clear HX4 c0 c1
  have c0 := HX5.out.r0
  have c1 := HX5.out.r1
  have c2 := HX5.out.z0
  have c3 := HX5.out.z1
  have c4 := HX5.out.f0
  have c5 := HX5.out.f1
  rw [← E1.out, ← E4.out, ← E3.out, ← E2.out] at *
  go_wp2
  go_region
  go_wp2
  rw [W1.out, W2.out]
  generalize (a : Int) / (u : Int) * ((p' : Int) / (v : Int)) = X at *
  generalize (b : Int) / (v : Int) * ((q' : Int) / (u : Int)) = Y at *
  obtain ⟨z0, z1, hzb⟩ := HX5.out.done X Y
  have hzd := hzb.drew
  clear hzb
  refine bodyPost_ret (v := .agg #[.int .i64 X, .int .i64 Y]) ?_ rfl ⟨rfl, ?_⟩
  · clear hzd
    generalize (w5.setCell ⟨w.heap.size + 1, 0, none⟩ (.int .i64 X)).setCell ⟨w.heap.size + 1, 1, none⟩ (.int .i64 Y) = WF at *
    simp [results, Try.f52, go_sem, z0, z1]
  · exact hzd
end Go.Proofs.Ytmfcknlpbliehab

/- Chances of gamblers: fractions in lowest terms, powers, the chance to win. -/
namespace Go.Proofs.Ytmfcknlpbliehab
open Go.RowKit
set_option linter.unusedVariables false
/-- a fraction in lowest terms: its numerator and its denominator -/
def numZ (n d : Int) : Int := n.tdiv (Nat.gcd n.natAbs d.natAbs : Nat)
def denZ (n d : Int) : Int := d.tdiv (Nat.gcd n.natAbs d.natAbs : Nat)
theorem gcd_bd {n d : Int} (hd : 0 < d) : 0 < ((Nat.gcd n.natAbs d.natAbs : Nat) : Int) := by
  have := Nat.gcd_pos_of_pos_right n.natAbs (show 0 < d.natAbs by omega)
  omega
theorem tdiv_part {d g : Int} (hg : 0 < g) (hd : 0 < d) (h2 : g ∣ d) : 0 < d.tdiv g ∧ d.tdiv g ≤ d := by
  obtain ⟨k, hk⟩ := h2
  rw [hk, Int.mul_tdiv_cancel_left _ (by omega)]
  have hk0 : 0 < k := by
    rcases Int.lt_or_le 0 k with h | h
    · exact h
    · exfalso
      have := Int.mul_nonpos_of_nonneg_of_nonpos (show 0 ≤ g by omega) h
      omega
  refine ⟨hk0, ?_⟩
  have := Int.mul_le_mul_of_nonneg_right (show 1 ≤ g by omega) (show 0 ≤ k by omega)
  omega
theorem denZ_bd {n d : Int} (hd : 0 < d) : 0 < denZ n d ∧ denZ n d ≤ d := by
  refine tdiv_part (gcd_bd hd) hd ?_
  have := Int.natCast_dvd_natCast.2 (Nat.gcd_dvd_right n.natAbs d.natAbs)
  rwa [show ((d.natAbs : Nat) : Int) = d by omega] at this
theorem numZ_pos {n d : Int} (hn : 0 < n) (hd : 0 < d) : 0 < numZ n d ∧ numZ n d ≤ n := by
  refine tdiv_part (gcd_bd hd) hn ?_
  have := Int.natCast_dvd_natCast.2 (Nat.gcd_dvd_left n.natAbs d.natAbs)
  rwa [show ((n.natAbs : Nat) : Int) = n by omega] at this
theorem numZ_zero (d : Int) : numZ 0 d = 0 := by unfold numZ; simp
theorem numZ_bd {n d : Int} {B : Nat} (hn : -(B : Int) ≤ n ∧ n ≤ B) : -(B : Int) ≤ numZ n d ∧ numZ n d ≤ B := by
  unfold numZ
  have := Int.natAbs_tdiv_le_natAbs n (Nat.gcd n.natAbs d.natAbs : Nat)
  omega
/-- a chance of n in d -/
def ruB (n d : Int) : Bool := (inBd 2 6 d && inBd 1 (d - 1) n) && (numZ n d == n && denZ n d == d)
theorem ruB_of {n d : Int} (h : ruB n d = true) : 2 ≤ d ∧ d ≤ 6 ∧ 1 ≤ n ∧ n ≤ d - 1 := by
  unfold ruB inBd at h
  simp only [Bool.and_eq_true, decide_eq_true_eq] at h
  omega
def askB (i g n d : Int) : Bool := (inBd 1 12 g && inBd 0 g i) && ruB n d
theorem askB_of {i g n d : Int} (h : askB i g n d = true) : (1 ≤ g ∧ g ≤ 12) ∧ (0 ≤ i ∧ i ≤ g) ∧ (2 ≤ d ∧ d ≤ 6) ∧ (1 ≤ n ∧ n ≤ d - 1) := by
  unfold askB inBd at h
  simp only [Bool.and_eq_true, decide_eq_true_eq] at h
  have := ruB_of h.2
  omega
/-- numerator and denominator of the chance to win, ahead of lowest terms -/
def wnN (i g n d : Int) : Int :=
  if n = d - n then i else
  if n ^ g.toNat - (d - n) ^ g.toNat < 0 then -(n ^ (g - i).toNat * (n ^ i.toNat - (d - n) ^ i.toNat)) else n ^ (g - i).toNat * (n ^ i.toNat - (d - n) ^ i.toNat)
def wnD (i g n d : Int) : Int :=
  if n = d - n then g else
  if n ^ g.toNat - (d - n) ^ g.toNat < 0 then -(n ^ g.toNat - (d - n) ^ g.toNat) else n ^ g.toNat - (d - n) ^ g.toNat
theorem pow_ne {a b : Nat} (h : a ≠ b) {k : Nat} (hk : 0 < k) : a ^ k ≠ b ^ k := by
  rcases Nat.lt_or_gt_of_ne h with h | h
  · exact Nat.ne_of_lt (Nat.pow_lt_pow_left h (by omega))
  · exact (Nat.ne_of_lt (Nat.pow_lt_pow_left h (by omega))).symm
theorem pow_cast (a k : Nat) : ((a ^ k : Nat) : Int) = (a : Int) ^ k := Int.natCast_pow a k
theorem pow5 {x : Int} (hx : 0 ≤ x ∧ x ≤ 5) {k : Nat} (hk : k ≤ 12) : 0 ≤ x ^ k ∧ x ^ k ≤ 244140625 := by
  obtain ⟨a, rfl⟩ := Int.eq_ofNat_of_zero_le hx.1
  rw [← pow_cast]
  have h1 : a ^ k ≤ 5 ^ k := Nat.pow_le_pow_left (by omega) k
  have h2 : (5 : Nat) ^ k ≤ 5 ^ 12 := Nat.pow_le_pow_right (by omega) hk
  have h3 : (5 : Nat) ^ 12 = 244140625 := by decide
  omega
theorem pow_ne_int {x y : Int} (hx : 0 ≤ x) (hy : 0 ≤ y) (h : x ≠ y) {k : Nat} (hk : 0 < k) : x ^ k ≠ y ^ k := by
  obtain ⟨a, rfl⟩ := Int.eq_ofNat_of_zero_le hx
  obtain ⟨b, rfl⟩ := Int.eq_ofNat_of_zero_le hy
  rw [← pow_cast, ← pow_cast]
  have := pow_ne (a := a) (b := b) (by omega) hk
  omega
theorem pow_mono {x y : Int} (hx : 0 ≤ x) (h : x ≤ y) (k : Nat) : x ^ k ≤ y ^ k := by
  obtain ⟨a, rfl⟩ := Int.eq_ofNat_of_zero_le hx
  obtain ⟨b, rfl⟩ := Int.eq_ofNat_of_zero_le (show 0 ≤ y by omega)
  rw [← pow_cast, ← pow_cast]
  have := Nat.pow_le_pow_left (show a ≤ b by omega) k
  omega
theorem pow_pos1 {x : Int} (hx : 1 ≤ x) (k : Nat) : 1 ≤ x ^ k := by
  have := pow_mono (x := 1) (by omega) hx k
  rwa [Int.one_pow] at this
theorem wn_bd {i g n d : Int} (h : askB i g n d = true) : (0 ≤ wnN i g n d ∧ wnN i g n d ≤ wnD i g n d) ∧ (0 < wnD i g n d ∧ wnD i g n d ≤ 244140625) ∧ (1 ≤ i → 0 < wnN i g n d) := by
  obtain ⟨h1, h2, h3, h4⟩ := askB_of h
  unfold wnN wnD
  by_cases c : n = d - n
  · rw [if_pos c, if_pos c]
    omega
  · rw [if_neg c, if_neg c]
    have p1 := pow5 (x := n) (by omega) (k := g.toNat) (by omega)
    have p2 := pow5 (x := d - n) (by omega) (k := g.toNat) (by omega)
    have p6 := pow_ne_int (x := n) (y := d - n) (by omega) (by omega) c (k := g.toNat) (by omega)
    have hg : g.toNat = (g - i).toNat + i.toNat := by omega
    have e1 : n ^ g.toNat = n ^ (g - i).toNat * n ^ i.toNat := by rw [hg, Int.pow_add]
    have e2 : (d - n) ^ g.toNat = (d - n) ^ (g - i).toNat * (d - n) ^ i.toNat := by rw [hg, Int.pow_add]
    have hP := pow_pos1 (x := n) (by omega) (g - i).toNat
    have hR := pow_pos1 (x := d - n) (by omega) (g - i).toNat
    have hQ := pow_pos1 (x := n) (by omega) i.toNat
    have hT := pow_pos1 (x := d - n) (by omega) i.toNat
    have hs : 1 ≤ i → n ^ i.toNat ≠ (d - n) ^ i.toNat := fun hi => pow_ne_int (by omega) (by omega) c (by omega)
    rw [e1] at p1 p6 ⊢
    rw [e2] at p2 p6 ⊢
    rcases Int.lt_or_gt_of_ne c with hlt | hgt
    · have m1 := pow_mono (x := n) (by omega) (show n ≤ d - n by omega) (g - i).toNat
      have m2 := pow_mono (x := n) (by omega) (show n ≤ d - n by omega) i.toNat
      generalize n ^ (g - i).toNat = P at *
      generalize (d - n) ^ (g - i).toNat = R at *
      generalize n ^ i.toNat = Q at *
      generalize (d - n) ^ i.toNat = T at *
      have q1 : P * Q ≤ R * T := Int.mul_le_mul m1 m2 (by omega) (by omega)
      have q2 : 0 ≤ (R - P) * T := Int.mul_nonneg (by omega) (by omega)
      have q3 : 0 ≤ P * (T - Q) := Int.mul_nonneg (by omega) (by omega)
      have q4 : 1 ≤ i → 0 < P * (T - Q) := fun hi => Int.mul_pos (by omega) (by have := hs hi; omega)
      rw [if_pos (by omega), if_pos (by omega)]
      rw [Int.sub_mul] at q2
      rw [Int.mul_sub] at q3 q4
      rw [Int.mul_sub]
      refine ⟨by omega, by omega, fun hi => ?_⟩
      have := q4 hi
      omega
    · have m1 := pow_mono (x := d - n) (by omega) (show d - n ≤ n by omega) (g - i).toNat
      have m2 := pow_mono (x := d - n) (by omega) (show d - n ≤ n by omega) i.toNat
      generalize n ^ (g - i).toNat = P at *
      generalize (d - n) ^ (g - i).toNat = R at *
      generalize n ^ i.toNat = Q at *
      generalize (d - n) ^ i.toNat = T at *
      have q1 : R * T ≤ P * Q := Int.mul_le_mul m1 m2 (by omega) (by omega)
      have q2 : 0 ≤ (P - R) * T := Int.mul_nonneg (by omega) (by omega)
      have q3 : 0 ≤ P * (Q - T) := Int.mul_nonneg (by omega) (by omega)
      have q4 : 1 ≤ i → 0 < P * (Q - T) := fun hi => Int.mul_pos (by omega) (by have := hs hi; omega)
      rw [if_neg (by omega), if_neg (by omega)]
      rw [Int.sub_mul] at q2
      rw [Int.mul_sub] at q3 q4
      rw [Int.mul_sub]
      refine ⟨by omega, by omega, fun hi => ?_⟩
      have := q4 hi
      omega
def winP (i g n d : Int) : Int := numZ (wnN i g n d) (wnD i g n d)
def winQ (i g n d : Int) : Int := denZ (wnN i g n d) (wnD i g n d)
theorem win_bd {i g n d : Int} (h : askB i g n d = true) : (0 ≤ winP i g n d ∧ winP i g n d ≤ 244140625) ∧ (0 < winQ i g n d ∧ winQ i g n d ≤ 244140625) ∧ (1 ≤ i → 0 < winP i g n d) := by
  obtain ⟨h1, h2, h3⟩ := wn_bd h
  have h4 := denZ_bd (n := wnN i g n d) h2.1
  unfold winP winQ
  rcases Int.lt_or_eq_of_le h1.1 with h5 | h5
  · have h6 := numZ_pos h5 h2.1
    exact ⟨by omega, by omega, fun _ => h6.1⟩
  · rw [← h5, numZ_zero]
    refine ⟨by omega, by rw [← h5] at h4; omega, fun hi => ?_⟩
    have := h3 hi
    omega
theorem mul_le_of' {x y A B : Int} (hx : 0 ≤ x ∧ x ≤ A) (hy : 0 ≤ y ∧ y ≤ B) : 0 ≤ x * y ∧ x * y ≤ A * B :=
  ⟨Int.mul_nonneg hx.1 hy.1, Int.le_trans (Int.mul_le_mul_of_nonneg_left hy.2 hx.1) (Int.mul_le_mul_of_nonneg_right hx.2 (by omega))⟩
theorem tdiv_mono {g a b : Int} (hg : 0 < g) (ha : 0 ≤ a) (h : a ≤ b) : a.tdiv g ≤ b.tdiv g := by
  rw [Int.tdiv_eq_ediv_of_nonneg ha, Int.tdiv_eq_ediv_of_nonneg (by omega)]
  exact Int.ediv_le_ediv hg h
theorem win_le {i g n d : Int} (h : askB i g n d = true) : winP i g n d ≤ winQ i g n d := by
  obtain ⟨h1, h2, h3⟩ := wn_bd h
  unfold winP winQ numZ denZ
  exact tdiv_mono (gcd_bd h2.1) h1.1 h1.2
end Go.Proofs.Ytmfcknlpbliehab
