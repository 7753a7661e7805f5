/- The model's ncCommon, times, CountFans. -/
import Derived.Test.YtahnknbggacndaaFanMath
import Derived.Test.YtahnknbggacndaaRatioMath
import Derived.Test.YtahnknbggacndaaInB
import Derived.Test.YtahnknbggacndaaOwn
import Derived.RegionTactic
import Derived.ChangeAlike
import Derived.Deep.RegionHeld3
import Derived.Deep.QuietTactic
import Derived.BigQuiet
import Derived.IntWalk
namespace Go.Proofs.Ytahnknbggacndaa
open Go.RowKit
set_option linter.unusedVariables false
set_option maxHeartbeats 1000000 in
theorem ncCommon_any (p q : Nat) (w : World) (hp : p ≤ 100000000000) (hq : q ≤ 100000000000) : Calls Try.prog 123 #[.int .i64 (p : Int), .int .i64 (q : Int)] w (Ret w (.int .i64 ((Nat.gcd p q : Nat) : Int))) := by
  obtain ⟨g, hg⟩ : ∃ g, Nat.gcd p q = g := ⟨_, rfl⟩
  rw [hg]
  have HG := Lib.hid hg
  clear hg
  go_enter Try.func123, Try.ntmps123
  go_wp2
  go_loopw [0, 1] (fun a b wr => ∃ (x y : Nat), a = .int .i64 (x : Int) ∧ b = .int .i64 (y : Int) ∧ x ≤ 100000000000 ∧ y ≤ 100000000000 ∧ Hid (Nat.gcd x y = g) ∧ ∃ n, wr = w.drewN n) (fun _ b _ => (intOf b).toNat)
  case atStart => exact ⟨p, q, rfl, rfl, hp, hq, HG, 0, rfl⟩
  case round =>
    obtain ⟨x, y, rfl, rfl, hx2, hy2, HG2, n, rfl⟩ := hrel
    by_cases hy : y = 0
    · subst hy
      have HE := Lib.hid (gcd_end HG2.out)
      go_wp2
      go_ret
      exact ⟨ret_int (by rw [HE.out]), below_drewN (Below.refl _ _) _⟩
    · have hyp : 0 < y := by omega
      have hy1 : 0 < (y : Int) := by omega
      have hb2 : ((y : Int) == 0) = false := by simpa using hy
      have HGS := Lib.hid (gcd_step HG2.out)
      have hlt := Nat.mod_lt x (show y > 0 by omega)
      have HM := Lib.hid (cast_mod x y)
      clear hy
      go_wp2
      go_region
      go_wp2
      go_roundw
      case rel => exact ⟨y, x % y, rfl, by rw [HM.out], hy2, by omega, HGS, n + 1, rfl⟩
      case measure => (show ((x : Int) % (y : Int)).toNat < ((y : Nat) : Int).toNat); rw [HM.out, Int.toNat_natCast, Int.toNat_natCast]; exact hlt
/-- a product in its box, and an empty one behind it -/
structure FZ (w : World) (a b : Int) (W : World) : Prop where
  r0 : W.cell? ⟨w.heap.size, 0, none⟩ = some (.int .i64 a)
  r1 : W.cell? ⟨w.heap.size, 1, none⟩ = some (.int .i64 b)
  z0 : W.cell? ⟨w.heap.size + 1, 0, none⟩ = some (.int .i64 0)
  z1 : W.cell? ⟨w.heap.size + 1, 1, none⟩ = some (.int .i64 0)
  f0 : W.frozen? ⟨w.heap.size + 1, 0, none⟩ = false
  f1 : W.frozen? ⟨w.heap.size + 1, 1, none⟩ = false
  lt : w.heap.size + 1 < W.heap.size
  below : Below w.heap.size w W
theorem FZ.kept {w W W' : World} {a b : Int} (h : FZ w a b W) (hb : Below W.heap.size W W') : FZ w a b W' :=
  ⟨(hb.cell (p := ⟨w.heap.size, 0, none⟩) (Nat.lt_of_succ_lt h.lt)).trans h.r0, (hb.cell (p := ⟨w.heap.size, 1, none⟩) (Nat.lt_of_succ_lt h.lt)).trans h.r1, (hb.cell (p := ⟨w.heap.size + 1, 0, none⟩) h.lt).trans h.z0, (hb.cell (p := ⟨w.heap.size + 1, 1, none⟩) h.lt).trans h.z1, (hb.frozen (p := ⟨w.heap.size + 1, 0, none⟩) h.lt).trans h.f0, (hb.frozen (p := ⟨w.heap.size + 1, 1, none⟩) h.lt).trans h.f1, Nat.lt_of_lt_of_le h.lt hb.size, h.below.trans (hb.mono h.below.size)⟩
theorem FZ.start (w : World) (a b : Int) : FZ w a b ((w.alloc (.cells #[.int .i64 a, .int .i64 b] 114)).alloc (.cells #[.int .i64 0, .int .i64 0] 114)) :=
  ⟨by simp [go_sem], by simp [go_sem], by simp [go_sem], by simp [go_sem], by simp [go_sem], by simp [go_sem], by simp, ((Below.refl _ _).alloc (Nat.le_refl _) _).alloc (by simp) _⟩
theorem FZ.done {w W : World} {a b : Int} (h : FZ w a b W) (x y : Int) :
    ((W.setCell ⟨w.heap.size + 1, 0, none⟩ (.int .i64 x)).setCell ⟨w.heap.size + 1, 1, none⟩ (.int .i64 y)).cell? ⟨w.heap.size + 1, 0, none⟩ = some (.int .i64 x) ∧ ((W.setCell ⟨w.heap.size + 1, 0, none⟩ (.int .i64 x)).setCell ⟨w.heap.size + 1, 1, none⟩ (.int .i64 y)).cell? ⟨w.heap.size + 1, 1, none⟩ = some (.int .i64 y) ∧
    Below w.heap.size w ((W.setCell ⟨w.heap.size + 1, 0, none⟩ (.int .i64 x)).setCell ⟨w.heap.size + 1, 1, none⟩ (.int .i64 y)) :=
  ⟨(World.cell?_setCell_other _ _ _ _ (by simp)).trans (World.cell?_setCell_same' _ _ _ (by rw [h.z0]; rfl)), World.cell?_setCell_same' _ _ _ (by rw [World.cell?_setCell_other _ _ _ _ (by simp), h.z1]; rfl),
    (h.below.setCell (p := ⟨w.heap.size + 1, 0, none⟩) (by show w.heap.size ≤ w.heap.size + 1; omega) _).setCell (p := ⟨w.heap.size + 1, 1, none⟩) (by show w.heap.size ≤ w.heap.size + 1; omega) _⟩
theorem fzKeep {w W W' : World} {a b : Int} (h : W.cell? ⟨w.heap.size, 0, none⟩ = some (.int .i64 a) ∧ W.cell? ⟨w.heap.size, 1, none⟩ = some (.int .i64 b) ∧ FZ w a b W) (hb : Below W.heap.size W W') : W'.cell? ⟨w.heap.size, 0, none⟩ = some (.int .i64 a) ∧ W'.cell? ⟨w.heap.size, 1, none⟩ = some (.int .i64 b) ∧ FZ w a b W' := ⟨(h.2.2.kept hb).r0, (h.2.2.kept hb).r1, h.2.2.kept hb⟩
theorem fzMk {w W : World} {a b : Int} (h : FZ w a b W) : W.cell? ⟨w.heap.size, 0, none⟩ = some (.int .i64 a) ∧ W.cell? ⟨w.heap.size, 1, none⟩ = some (.int .i64 b) ∧ FZ w a b W := ⟨h.r0, h.r1, h⟩
theorem FZ.drew {w W : World} {a b : Int} (h : FZ w a b W) : FZ w a b W.drew := h.kept (Below.refl _ _).drew
theorem fzOf {w W : World} {a b : Int} (h : W.cell? ⟨w.heap.size, 0, none⟩ = some (.int .i64 a) ∧ W.cell? ⟨w.heap.size, 1, none⟩ = some (.int .i64 b) ∧ FZ w a b W) : FZ w a b W := h.2.2
theorem div_small {p g B : Nat} (h : p ≤ B) : 0 ≤ ((p / g : Nat) : Int) ∧ ((p / g : Nat) : Int) ≤ (B : Int) := by
  have hk := Nat.div_le_self p g
  generalize p / g = k at *
  exact ⟨Int.natCast_nonneg k, Int.ofNat_le.mpr (Nat.le_trans hk h)⟩
theorem mul_small {x y : Int} {A B : Nat} (h : 0 ≤ x ∧ x ≤ (A : Int)) (h' : 0 ≤ y ∧ y ≤ (B : Int)) : 0 ≤ x * y ∧ x * y ≤ (A : Int) * (B : Int) := ⟨Int.mul_nonneg h.1 h'.1, Int.mul_le_mul h.2 h'.2 h'.1 (Int.le_trans h.1 h.2)⟩
theorem cast_mul (x y : Nat) : ((x * y : Nat) : Int) = (x : Int) * (y : Int) := Int.natCast_mul x y
set_option maxRecDepth 100000 in
set_option maxHeartbeats 2000000 in
theorem times_any (a b p q : Nat) (w : World) (ha : 1 ≤ a ∧ a ≤ 100000000000) (hb : 1 ≤ b ∧ b ≤ 100000000000) (hp : 1 ≤ p ∧ p ≤ 100) (hq : 1 ≤ q ∧ q ≤ 100) :
    Calls Try.prog 109 #[.agg #[.int .i64 (a : Int), .int .i64 (b : Int)], .int .i64 (p : Int), .int .i64 (q : Int)] w (Ret w (.agg #[.int .i64 (((tms (a, b) p q).1 : Nat) : Int), .int .i64 (((tms (a, b) p q).2 : Nat) : Int)])) := by
  have HX := Lib.hid (FZ.start w (a : Int) (b : Int))
  have hg0 : 0 < Nat.gcd p q := Nat.gcd_pos_of_pos_left q hp.1
  have HO : Hid (∀ w, Calls Try.prog 123 #[.int .i64 (p : Int), .int .i64 (q : Int)] w (Ret w (.int .i64 ((Nat.gcd p q : Nat) : Int)))) := Lib.hid fun w => ncCommon_any p q w (by omega) (by omega)
  unfold tms
  simp only
  generalize Nat.gcd p q = g at *
  have HP : Hid ((p : Int) / (g : Int) = ((p / g : Nat) : Int)) := Lib.hid (cast_div p g)
  have HQ : Hid ((q : Int) / (g : Int) = ((q / g : Nat) : Int)) := Lib.hid (cast_div q g)
  have dp := Nat.div_le_self p g
  have dq := Nat.div_le_self q g
  generalize p / g = p' at *
  generalize q / g = q' at *
  have HA : Hid (∀ w, Calls Try.prog 123 #[.int .i64 (a : Int), .int .i64 (q' : Int)] w (Ret w (.int .i64 ((Nat.gcd a q' : Nat) : Int)))) := Lib.hid fun w => ncCommon_any a q' w (by omega) (by omega)
  have HB : Hid (∀ w, Calls Try.prog 123 #[.int .i64 (p' : Int), .int .i64 (b : Int)] w (Ret w (.int .i64 ((Nat.gcd p' b : Nat) : Int)))) := Lib.hid fun w => ncCommon_any p' b w (by omega) (by omega)
  have hga : 0 < Nat.gcd a q' := Nat.gcd_pos_of_pos_left q' ha.1
  have hgb : 0 < Nat.gcd p' b := Nat.gcd_pos_of_pos_right p' hb.1
  generalize Nat.gcd a q' = u at *
  generalize Nat.gcd p' b = v at *
  have m1 := mul_small (div_small (g := u) (show a ≤ 100000000000 by omega)) (div_small (g := v) (show p' ≤ 100 by omega))
  have m2 := mul_small (div_small (g := v) (show b ≤ 100000000000 by omega)) (div_small (g := u) (show q' ≤ 100 by omega))
  rw [cast_mul, cast_mul]
  have E1 : Hid ((a : Int) / (u : Int) = ((a / u : Nat) : Int)) := Lib.hid (cast_div a u)
  have E2 : Hid ((p' : Int) / (v : Int) = ((p' / v : Nat) : Int)) := Lib.hid (cast_div p' v)
  have E3 : Hid ((b : Int) / (v : Int) = ((b / v : Nat) : Int)) := Lib.hid (cast_div b v)
  have E4 : Hid ((q' : Int) / (u : Int) = ((q' / u : Nat) : Int)) := Lib.hid (cast_div q' u)
  have W1 : Hid (wrap64 ((a : Int) / (u : Int) * ((p' : Int) / (v : Int))) = (a : Int) / (u : Int) * ((p' : Int) / (v : Int))) := Lib.hid (IntWalk.wrap64_in _ (by rw [E1.out, E2.out]; exact ⟨Int.le_trans (by omega) m1.1, Int.le_trans m1.2 (by omega)⟩))
  have W2 : Hid (wrap64 ((b : Int) / (v : Int) * ((q' : Int) / (u : Int))) = (b : Int) / (v : Int) * ((q' : Int) / (u : Int))) := Lib.hid (IntWalk.wrap64_in _ (by rw [E3.out, E4.out]; exact ⟨Int.le_trans (by omega) m2.1, Int.le_trans m2.2 (by omega)⟩))
  clear m1 m2
  have l1 := div_small (g := u) (show a ≤ 100000000000 by omega)
  have l2 := div_small (g := v) (show p' ≤ 100 by omega)
  have l3 := div_small (g := v) (show b ≤ 100000000000 by omega)
  have l4 := div_small (g := u) (show q' ≤ 100 by omega)
  have h0 := hg0
  have h1 : 1 ≤ (g : Int) := by omega
  have h2 : 1 ≤ (u : Int) := by omega
  have h3 : 1 ≤ (v : Int) := by omega
  have d1 : 0 ≤ ((p : Int) / (g : Int)) ∧ ((p : Int) / (g : Int)) ≤ 100 := by rw [HP.out]; omega
  have d2 : 0 ≤ ((q : Int) / (g : Int)) ∧ ((q : Int) / (g : Int)) ≤ 100 := by rw [HQ.out]; omega
  go_enter Try.func109, Try.ntmps109
  go_wp2_with (go_at_call 123; refine (HO.out _).mono ?_; rintro e w4 ⟨rfl, hb4⟩)
  rw [HP.out, HQ.out]
  have HX4 := Lib.hid (HX.out.kept hb4)
  have c0 := HX4.out.r0
  have c1 := HX4.out.r1
  clear HX
  go_region_held3 (fun X => X.cell? ⟨w.heap.size, 0, none⟩ = some (.int .i64 (a : Int)) ∧ X.cell? ⟨w.heap.size, 1, none⟩ = some (.int .i64 (b : Int)) ∧ FZ w (a : Int) (b : Int) X) (first | exact fzMk HX4.out.drew | assumption | (refine fzKeep (W := _) ?_ hb5; assumption)) (first | (go_at_call 123; first | ((with_reducible refine (HA.out _).mono ?_); rintro e w5 ⟨rfl, hb5⟩) | ((with_reducible refine (HB.out _).mono ?_); rintro e w5 ⟨rfl, hb5⟩)))
  have HX5 := Lib.hid (fzOf (by assumption))
  clear HX4 c0 c1
  have c0 := HX5.out.r0
  have c1 := HX5.out.r1
  have c2 := HX5.out.z0
  have c3 := HX5.out.z1
  have c4 := HX5.out.f0
  have c5 := HX5.out.f1
  rw [← E1.out, ← E4.out, ← E3.out, ← E2.out] at *
  go_wp2
  go_region
  go_wp2
  rw [W1.out, W2.out]
  generalize (a : Int) / (u : Int) * ((p' : Int) / (v : Int)) = X at *
  generalize (b : Int) / (v : Int) * ((q' : Int) / (u : Int)) = Y at *
  obtain ⟨z0, z1, hzb⟩ := HX5.out.done X Y
  have hzd := hzb.drew
  clear hzb
  refine bodyPost_ret (v := .agg #[.int .i64 X, .int .i64 Y]) ?_ rfl ⟨rfl, ?_⟩
  · clear hzd
    generalize (w5.setCell ⟨w.heap.size + 1, 0, none⟩ (.int .i64 X)).setCell ⟨w.heap.size + 1, 1, none⟩ (.int .i64 Y) = WF at *
    simp [results, Try.f109, go_sem, z0, z1]
  · exact hzd
end Go.Proofs.Ytahnknbggacndaa
