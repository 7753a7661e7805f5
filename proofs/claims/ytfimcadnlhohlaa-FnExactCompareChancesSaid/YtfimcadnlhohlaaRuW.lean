/- The model's ruPower, ruAsked, ruWin. -/
import Derived.Test.YtfimcadnlhohlaaRuS
namespace Go.Proofs.Ytfimcadnlhohlaa
open Go.RowKit
set_option linter.unusedVariables false
theorem pow6 {x : Int} (hx : 0 ≤ x ∧ x ≤ 6) {k : Nat} (hk : k ≤ 18) : 0 ≤ x ^ k ∧ x ^ k ≤ 101559956668416 := by
  obtain ⟨a, rfl⟩ := Int.eq_ofNat_of_zero_le hx.1
  rw [← pow_cast]
  have h1 : a ^ k ≤ 6 ^ k := Nat.pow_le_pow_left (by omega) k
  have h2 : (6 : Nat) ^ k ≤ 6 ^ 18 := Nat.pow_le_pow_right (by omega) hk
  have h3 : (6 : Nat) ^ 18 = 101559956668416 := by decide
  omega
set_option maxHeartbeats 800000 in
theorem ruPower_any (x : Int) (n : Nat) (w : World) (hx : 0 ≤ x ∧ x ≤ 6) (hn : n ≤ 18) : Calls Try.prog 65 #[.int .i64 x, .int .i64 (n : Int)] w fun e w' => e = .returned (.int .i64 (x ^ n)) ∧ w = w' := by
  go_enter Try.func65, Try.ntmps65
  go_wp2_with fail
  go_loop [1, 5] (fun m o => ∃ k : Nat, k ≤ n ∧ m = .int .i64 ((n : Int) - k) ∧ o = .int .i64 (x ^ k)) (fun m _ => (intOf m).toNat)
  case atStart => exact ⟨0, Nat.zero_le _, by go_num, by rw [Int.pow_zero]⟩
  case round =>
    obtain ⟨k, hk, rfl, rfl⟩ := hrel
    by_cases hlt : k < n
    · have b1 := pow6 hx (k := k) (by omega)
      have b2 := pow6 hx (k := k + 1) (by omega)
      rw [Int.pow_succ] at b2
      have HP : Hid (x ^ (k + 1) = x ^ k * x) := Lib.hid (Int.pow_succ _ _)
      generalize x ^ k = p at *
      have i1 : 0 < (n : Int) - (k : Int) := by omega
      have HM : Hid ((n : Int) - (k : Int) - 1 = (n : Int) - ((k + 1 : Nat) : Int)) := Lib.hid (by omega)
      go_wp2_with fail
      go_round
      case rel => exact ⟨k + 1, by omega, by rw [HM.out], by rw [HP.out]⟩
      case measure => simp [intOf]; omega
    · obtain rfl : k = n := by omega
      have i1 : ¬ 0 < (k : Int) - (k : Int) := by omega
      go_wp2_with fail
      go_ret
      exact ⟨rfl, rfl⟩
set_option maxHeartbeats 1000000 in
theorem ruAsked_any (i g n d : Int) (w : World) : Calls Try.prog 56 #[.int .i64 i, .int .i64 g, .agg #[.int .i64 n, .int .i64 d]] w (Ret w (.bool (askB i g n d))) := by
  have H1 : Hid (∀ w, Calls Try.prog 64 #[.int .i64 g, .int .i64 1, .int .i64 12] w fun e w' => e = .returned (.bool (inBd 1 12 g)) ∧ w = w') := Lib.hid fun w => in_any g 1 12 w
  have H2 : Hid (∀ w, Calls Try.prog 64 #[.int .i64 i, .int .i64 0, .int .i64 g] w fun e w' => e = .returned (.bool (inBd 0 g i)) ∧ w = w') := Lib.hid fun w => in_any i 0 g w
  have H3 : Hid (∀ w, Calls Try.prog 53 #[.agg #[.int .i64 n, .int .i64 d]] w (Ret w (.bool (ruB n d)))) := Lib.hid fun w => ruIs_any n d w
  have hb0 := (RBox.start w n d).2.2.2
  unfold askB
  generalize ruB n d = b3 at *
  rcases Bool.eq_false_or_eq_true (inBd 1 12 g) with a1 | a1
  · rcases Bool.eq_false_or_eq_true (inBd 0 g i) with a2 | a2
    · rw [a1] at H1 ⊢
      rw [a2] at H2 ⊢
      clear a1 a2
      go_enter Try.func56, Try.ntmps56
      go_wp2_with (first | (go_at_call 64; first | (with_reducible refine (H1.out _).mono ?_; rintro e w' ⟨rfl, rfl⟩) | (with_reducible refine (H2.out _).mono ?_; rintro e w' ⟨rfl, rfl⟩)) | (go_at_call 53; refine (H3.out _).mono ?_; rintro e w' ⟨rfl, hb'⟩))
      go_ret
      exact ⟨by simp, hb0.trans (hb'.mono (by simp))⟩
    · rw [a1] at H1 ⊢
      rw [a2] at H2 ⊢
      clear a1 a2
      go_enter Try.func56, Try.ntmps56
      go_wp2_with (go_at_call 64; first | (with_reducible refine (H1.out _).mono ?_; rintro e w' ⟨rfl, rfl⟩) | (with_reducible refine (H2.out _).mono ?_; rintro e w' ⟨rfl, rfl⟩))
      go_ret
      exact ⟨by simp, hb0⟩
  · rw [a1] at H1 ⊢
    clear a1
    go_enter Try.func56, Try.ntmps56
    go_wp2_with (go_at_call 64; refine (H1.out _).mono ?_; rintro e w' ⟨rfl, rfl⟩)
    go_ret
    exact ⟨by simp, hb0⟩
/-- an empty ratio at b, in a world behind w -/
structure ZBox (w : World) (b : Nat) (W : World) : Prop where
  c0 : W.cell? ⟨b, 0, none⟩ = some (.int .i64 0)
  c1 : W.cell? ⟨b, 1, none⟩ = some (.int .i64 0)
  f0 : W.frozen? ⟨b, 0, none⟩ = false
  f1 : W.frozen? ⟨b, 1, none⟩ = false
  lt : b < W.heap.size
  lo : w.heap.size ≤ b
  below : Below w.heap.size w W
theorem ZBox.kept {w W W' : World} {b : Nat} (h : ZBox w b W) (hb : Below W.heap.size W W') : ZBox w b W' :=
  ⟨(hb.cell (p := ⟨b, 0, none⟩) h.lt).trans h.c0, (hb.cell (p := ⟨b, 1, none⟩) h.lt).trans h.c1, (hb.frozen (p := ⟨b, 0, none⟩) h.lt).trans h.f0, (hb.frozen (p := ⟨b, 1, none⟩) h.lt).trans h.f1, Nat.lt_of_lt_of_le h.lt hb.size, h.lo, h.below.trans (hb.mono h.below.size)⟩
theorem ZBox.start (w : World) (n d : Int) : ZBox w (w.heap.size + 1) ((w.alloc (.cells #[.int .i64 n, .int .i64 d] 25)).alloc (.cells #[.int .i64 0, .int .i64 0] 25)) :=
  ⟨by simp [go_sem], by simp [go_sem], by simp [go_sem], by simp [go_sem], by simp, by omega, ((Below.refl _ _).alloc (Nat.le_refl _) _).alloc (by simp) _⟩
theorem ZBox.done {w W : World} {b : Nat} (h : ZBox w b W) (x y : Int) :
    ((W.setCell ⟨b, 0, none⟩ (.int .i64 x)).setCell ⟨b, 1, none⟩ (.int .i64 y)).cell? ⟨b, 0, none⟩ = some (.int .i64 x) ∧ ((W.setCell ⟨b, 0, none⟩ (.int .i64 x)).setCell ⟨b, 1, none⟩ (.int .i64 y)).cell? ⟨b, 1, none⟩ = some (.int .i64 y) ∧
    Below w.heap.size w ((W.setCell ⟨b, 0, none⟩ (.int .i64 x)).setCell ⟨b, 1, none⟩ (.int .i64 y)) :=
  ⟨(World.cell?_setCell_other _ _ _ _ (by simp)).trans (World.cell?_setCell_same' _ _ _ (by rw [h.c0]; rfl)), World.cell?_setCell_same' _ _ _ (by rw [World.cell?_setCell_other _ _ _ _ (by simp), h.c1]; rfl),
    (h.below.setCell (p := ⟨b, 0, none⟩) h.lo _).setCell (p := ⟨b, 1, none⟩) h.lo _⟩
theorem wp_nameR {P : Program} {c : Code} {Q : Exit → Act → World → Prop} {a : Act} {w : World} (S : World → Prop) (h : S w) (k : ∀ W, S W → c.wp P Q a W) : c.wp P Q a w := k w h
set_option maxRecDepth 100000 in
set_option maxHeartbeats 2000000 in
theorem ruWin_any (i g n d : Int) (w : World) (ha : askB i g n d = true) : Calls Try.prog 57 #[.int .i64 i, .int .i64 g, .agg #[.int .i64 n, .int .i64 d]] w (Ret w (.agg #[.int .i64 (winP i g n d), .int .i64 (winQ i g n d)])) := by
  obtain ⟨h1, h2, h3, h4⟩ := askB_of ha
  have HB := Lib.hid (wn_bd ha)
  have HZ := Lib.hid (ZBox.start w n d)
  by_cases hc : n = d - n
  · have e1 : wnN i g n d = i := by unfold wnN; rw [if_pos hc]
    have e2 : wnD i g n d = g := by unfold wnD; rw [if_pos hc]
    have HR : Hid (∀ w, Calls Try.prog 62 #[.int .i64 i, .int .i64 g] w (Ret w (.agg #[.int .i64 (winP i g n d), .int .i64 (winQ i g n d)]))) := Lib.hid fun w => by
      have := ruRatioZ_any i g w (by omega) (by omega)
      unfold winP winQ
      rw [e1, e2]
      exact this
    generalize winP i g n d = x at *
    generalize winQ i g n d = y at *
    have k1 : (n == d - n) = true := by rw [beq_iff_eq]; exact hc
    have HC := Lib.hid hc
    clear hc e1 e2 ha
    go_enter Try.func57, Try.ntmps57
    go_wp2_with fail
    go_quiet (fail)
    go_wp2_with (go_at_call 62; refine (HR.out _).mono ?_; rintro e wz ⟨rfl, hb'⟩; have hz := (HZ.out.kept (below_drewN (Below.refl _ _) nq)).kept hb'; obtain ⟨z0, z1, hzb⟩ := hz.done x y; have HZB := Lib.hid hzb; have y0 := hz.c0; have y1 := hz.c1; have y2 := hz.f0; have y3 := hz.f1; clear hz hzb hb' HZ)
    refine bodyPost_ret (v := .agg #[.int .i64 x, .int .i64 y]) ?_ rfl ⟨rfl, HZB.out⟩; clear HZB; generalize (wz.setCell ⟨w.heap.size + 1, 0, none⟩ (.int .i64 x)).setCell ⟨w.heap.size + 1, 1, none⟩ (.int .i64 y) = WF at *
    simp [results, Try.f57, go_sem, z0, z1]
  · have e3 := HB.out.2.1
    have HR : Hid (∀ w, Calls Try.prog 62 #[.int .i64 (wnN i g n d), .int .i64 (wnD i g n d)] w (Ret w (.agg #[.int .i64 (winP i g n d), .int .i64 (winQ i g n d)]))) := Lib.hid fun w => ruRatioZ_any (wnN i g n d) (wnD i g n d) w (by have := HB.out.1; omega) (by omega)
    have b1 := HB.out.1
    unfold wnN wnD at HR
    clear e3 b1
    simp only [if_neg hc] at HR
    have k1 : (n == d - n) = false := beq_eq_false_iff_ne.2 hc
    obtain ⟨G, hG⟩ : ∃ G : Nat, g = (G : Int) := ⟨g.toNat, by omega⟩
    obtain ⟨I, hI⟩ : ∃ I : Nat, i = (I : Int) := ⟨i.toNat, by omega⟩
    obtain ⟨J, hJ⟩ : ∃ J : Nat, g - i = (J : Int) := ⟨(g - i).toNat, by omega⟩
    rw [show (g - i).toNat = J by omega, show i.toNat = I by omega, show g.toNat = G by omega] at HR
    have p1 := pow5 (x := n) (by omega) (k := G) (by omega)
    have p2 := pow5 (x := d - n) (by omega) (k := G) (by omega)
    have p3 := pow5 (x := n) (by omega) (k := I) (by omega)
    have p4 := pow5 (x := d - n) (by omega) (k := I) (by omega)
    have p5 := pow5 (x := n) (by omega) (k := J) (by omega)
    have HP : Hid (∀ (x : Int) (k : Nat) (w : World), 0 ≤ x ∧ x ≤ 6 → k ≤ 18 → Calls Try.prog 65 #[.int .i64 x, .int .i64 (k : Int)] w fun e w' => e = .returned (.int .i64 (x ^ k)) ∧ w = w') := Lib.hid ruPower_any
    have P1 : Hid (∀ w, Calls Try.prog 65 #[.int .i64 n, .int .i64 (g - i)] w fun e w' => e = .returned (.int .i64 (n ^ J)) ∧ w = w') := Lib.hid fun w => by rw [hJ]; exact HP.out n J w (by omega) (by omega)
    have P2 : Hid (∀ w, Calls Try.prog 65 #[.int .i64 n, .int .i64 i] w fun e w' => e = .returned (.int .i64 (n ^ I)) ∧ w = w') := Lib.hid fun w => by rw [hI]; exact HP.out n I w (by omega) (by omega)
    have P3 : Hid (∀ w, Calls Try.prog 65 #[.int .i64 (d - n), .int .i64 i] w fun e w' => e = .returned (.int .i64 ((d - n) ^ I)) ∧ w = w') := Lib.hid fun w => by rw [hI]; exact HP.out (d - n) I w (by omega) (by omega)
    have P4 : Hid (∀ w, Calls Try.prog 65 #[.int .i64 n, .int .i64 g] w fun e w' => e = .returned (.int .i64 (n ^ G)) ∧ w = w') := Lib.hid fun w => by rw [hG]; exact HP.out n G w (by omega) (by omega)
    have P5 : Hid (∀ w, Calls Try.prog 65 #[.int .i64 (d - n), .int .i64 g] w fun e w' => e = .returned (.int .i64 ((d - n) ^ G)) ∧ w = w') := Lib.hid fun w => by rw [hG]; exact HP.out (d - n) G w (by omega) (by omega)
    generalize winP i g n d = x at *
    generalize winQ i g n d = y at *
    have p6 : -59604644775390625 ≤ n ^ J * (n ^ I - (d - n) ^ I) ∧ n ^ J * (n ^ I - (d - n) ^ I) ≤ 59604644775390625 := by
      have : (n ^ J * (n ^ I - (d - n) ^ I)).natAbs ≤ 244140625 * 244140625 := by
        rw [Int.natAbs_mul]
        exact Nat.mul_le_mul (by omega) (by omega)
      omega
    clear hJ hG hI HP ha HB hc
    generalize n ^ J = q5 at *
    generalize n ^ I = q3 at *
    generalize (d - n) ^ I = q4 at *
    generalize n ^ G = q1 at *
    generalize (d - n) ^ G = q2 at *
    by_cases hneg : q1 - q2 < 0
    · rw [if_pos hneg, if_pos hneg] at HR
      go_enter Try.func57, Try.ntmps57
      go_wp2_with fail
      go_quiet (fail)
      go_wp2_with fail
      refine (P1.out _).mono ?_
      rintro e w' ⟨rfl, rfl⟩
      go_wp2_with fail
      refine (P2.out _).mono ?_
      rintro e w' ⟨rfl, rfl⟩
      go_wp2_with fail
      refine (P3.out _).mono ?_
      rintro e w' ⟨rfl, rfl⟩
      go_wp2_with fail
      refine (P4.out _).mono ?_
      rintro e w' ⟨rfl, rfl⟩
      go_wp2_with fail
      refine (P5.out _).mono ?_
      rintro e w' ⟨rfl, rfl⟩
      go_wp2_with (go_at_call 62; refine (HR.out _).mono ?_; rintro e wz ⟨rfl, hb'⟩; have hz := (HZ.out.kept (below_drewN (Below.refl _ _) nq)).kept hb'; obtain ⟨z0, z1, hzb⟩ := hz.done x y; have HZB := Lib.hid hzb; have y0 := hz.c0; have y1 := hz.c1; have y2 := hz.f0; have y3 := hz.f1; clear hz hzb hb' HZ)
      refine bodyPost_ret (v := .agg #[.int .i64 x, .int .i64 y]) ?_ rfl ⟨rfl, HZB.out⟩; clear HZB; generalize (wz.setCell ⟨w.heap.size + 1, 0, none⟩ (.int .i64 x)).setCell ⟨w.heap.size + 1, 1, none⟩ (.int .i64 y) = WF at *
      simp [results, Try.f57, go_sem, z0, z1]
    · rw [if_neg hneg, if_neg hneg] at HR
      go_enter Try.func57, Try.ntmps57
      go_wp2_with fail
      go_quiet (fail)
      go_wp2_with fail
      refine (P1.out _).mono ?_
      rintro e w' ⟨rfl, rfl⟩
      go_wp2_with fail
      refine (P2.out _).mono ?_
      rintro e w' ⟨rfl, rfl⟩
      go_wp2_with fail
      refine (P3.out _).mono ?_
      rintro e w' ⟨rfl, rfl⟩
      go_wp2_with fail
      refine (P4.out _).mono ?_
      rintro e w' ⟨rfl, rfl⟩
      go_wp2_with fail
      refine (P5.out _).mono ?_
      rintro e w' ⟨rfl, rfl⟩
      go_wp2_with (go_at_call 62; refine (HR.out _).mono ?_; rintro e wz ⟨rfl, hb'⟩; have hz := (HZ.out.kept (below_drewN (Below.refl _ _) nq)).kept hb'; obtain ⟨z0, z1, hzb⟩ := hz.done x y; have HZB := Lib.hid hzb; have y0 := hz.c0; have y1 := hz.c1; have y2 := hz.f0; have y3 := hz.f1; clear hz hzb hb' HZ)
      refine bodyPost_ret (v := .agg #[.int .i64 x, .int .i64 y]) ?_ rfl ⟨rfl, HZB.out⟩; clear HZB; generalize (wz.setCell ⟨w.heap.size + 1, 0, none⟩ (.int .i64 x)).setCell ⟨w.heap.size + 1, 1, none⟩ (.int .i64 y) = WF at *
      simp [results, Try.f57, go_sem, z0, z1]
end Go.Proofs.Ytfimcadnlhohlaa
