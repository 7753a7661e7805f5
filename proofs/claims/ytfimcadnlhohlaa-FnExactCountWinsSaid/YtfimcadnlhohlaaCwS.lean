/- The model's CountWins. -/
import Derived.Test.YtfimcadnlhohlaaCwMath
import Derived.Test.YtfimcadnlhohlaaRuW
import Derived.Test.YtfimcadnlhohlaaOwn
namespace Go.Proofs.Ytfimcadnlhohlaa
open Go.RowKit
set_option linter.unusedVariables false
set_option maxRecDepth 100000 in
set_option maxHeartbeats 4000000 in
theorem specCountWins_ret (i g k : Int) (w : World) : Calls Try.prog 49 #[.int .i64 i, .int .i64 g, .int .i64 k] w (Ret w (.tuple #[.int .i64 (cwV i g k), .bool (cwOk i g k)])) := by
  have H1 : Hid (∀ w, Calls Try.prog 64 #[.int .i64 g, .int .i64 1, .int .i64 12] w fun e w' => e = .returned (.bool (inBd 1 12 g)) ∧ w = w') := Lib.hid fun w => in_any g 1 12 w
  have H2 : Hid (∀ w, Calls Try.prog 64 #[.int .i64 i, .int .i64 1, .int .i64 (g - 1)] w fun e w' => e = .returned (.bool (inBd 1 (g - 1) i)) ∧ w = w') := Lib.hid fun w => in_any i 1 (g - 1) w
  have H3 : Hid (∀ w, Calls Try.prog 64 #[.int .i64 k, .int .i64 0, .int .i64 18] w fun e w' => e = .returned (.bool (inBd 0 18 k)) ∧ w = w') := Lib.hid fun w => in_any k 0 18 w
  rcases Bool.eq_false_or_eq_true (inBd 1 12 g) with a1 | a1
  case inr =>
    have hok : cwOk i g k = false := by unfold cwOk; rw [a1]; rfl
    have e1 : cwV i g k = 0 := by unfold cwV; rw [hok]; rfl
    rw [hok, e1]
    rw [a1] at H1
    clear hok e1 a1
    go_enter Try.func49, Try.ntmps49
    go_wp2_with fail
    refine (H1.out _).mono ?_
    rintro e w' ⟨rfl, rfl⟩
    go_wp2_with fail
    go_ret2
    exact ⟨rfl, Below.refl _ _⟩
  have hg : 1 ≤ g ∧ g ≤ 12 := by unfold inBd at a1; simpa only [Bool.and_eq_true, decide_eq_true_eq] using a1
  rcases Bool.eq_false_or_eq_true (inBd 1 (g - 1) i) with a2 | a2
  case inr =>
    have hok : cwOk i g k = false := by unfold cwOk; rw [a1, a2]; rfl
    have e1 : cwV i g k = 0 := by unfold cwV; rw [hok]; rfl
    rw [hok, e1]
    rw [a1] at H1
    rw [a2] at H2
    clear hok e1 a1 a2
    go_enter Try.func49, Try.ntmps49
    go_wp2_with fail
    refine (H1.out _).mono ?_
    rintro e w' ⟨rfl, rfl⟩
    go_wp2_with fail
    refine (H2.out _).mono ?_
    rintro e w' ⟨rfl, rfl⟩
    go_wp2_with fail
    go_ret2
    exact ⟨rfl, Below.refl _ _⟩
  have hi : 1 ≤ i ∧ i ≤ g - 1 := by unfold inBd at a2; simpa only [Bool.and_eq_true, decide_eq_true_eq] using a2
  rcases Bool.eq_false_or_eq_true (inBd 0 18 k) with a3 | a3
  case inr =>
    have hok : cwOk i g k = false := by unfold cwOk; rw [a1, a2, a3]; rfl
    have e1 : cwV i g k = 0 := by unfold cwV; rw [hok]; rfl
    rw [hok, e1]
    rw [a1] at H1
    rw [a2] at H2
    rw [a3] at H3
    clear hok e1 a1 a2 a3
    go_enter Try.func49, Try.ntmps49
    go_wp2_with fail
    refine (H1.out _).mono ?_
    rintro e w' ⟨rfl, rfl⟩
    go_wp2_with fail
    refine (H2.out _).mono ?_
    rintro e w' ⟨rfl, rfl⟩
    go_wp2_with fail
    refine (H3.out _).mono ?_
    rintro e w' ⟨rfl, rfl⟩
    go_wp2_with fail
    go_ret2
    exact ⟨rfl, Below.refl _ _⟩
  have hk : 0 ≤ k ∧ k ≤ 18 := by unfold inBd at a3; simpa only [Bool.and_eq_true, decide_eq_true_eq] using a3
  have hok : cwOk i g k = true := by unfold cwOk; rw [a1, a2, a3]; rfl
  have e1 : cwV i g k = gw i.toNat g.toNat k.toNat g.toNat := by unfold cwV; rw [if_pos hok]
  rw [hok, e1]
  rw [a1] at H1
  rw [a2] at H2
  rw [a3] at H3
  clear hok e1 a1 a2 a3
  obtain ⟨I, rfl⟩ := Int.eq_ofNat_of_zero_le (show 0 ≤ i by omega)
  obtain ⟨G, rfl⟩ := Int.eq_ofNat_of_zero_le (show 0 ≤ g by omega)
  obtain ⟨K, rfl⟩ := Int.eq_ofNat_of_zero_le (show 0 ≤ k by omega)
  simp only [Int.toNat_natCast]
  obtain ⟨i0, hi0, hz0, hz1, hz2⟩ := info_parts intInfo
  go_enter Try.func49, Try.ntmps49
  go_wp2_with fail
  refine (H1.out _).mono ?_
  rintro e w' ⟨rfl, rfl⟩
  go_wp2_with fail
  refine (H2.out _).mono ?_
  rintro e w' ⟨rfl, rfl⟩
  go_wp2_with fail
  refine (H3.out _).mono ?_
  rintro e w' ⟨rfl, rfl⟩
  go_wp2_with (refine wpList_make_full _ rfl (.tmp 27) (.tmp 27) 51 rfl w.heap.size 3 i0 (.int .i64 0) 1 Try.underlying51 hi0 hz0 hz1 .i64 .i64 _ _ (G + 1) rfl rfl (by omega) (by omega) (by rw [hz2]; omega) (by unfold maxLen; omega) (Nat.le_refl _) ?_; intro w1 hown1 hgrow1; have hrow1 : IRow w1 w.heap.size (.slice (some ⟨w.heap.size, 0, none⟩) (G + 1) (G + 1)) (List.replicate (G + 1) 0) := (IRow.of_own hown1 (by simp) (by rw [madeOne _ rfl]; simp)); have hb1 : Below w.heap.size w w1 := ((Below.refl _ _).grown hgrow1 (Nat.le_refl _) (by simp)); have hc1 := hrow1.cell (j := I) (by simp; omega); have hf1 := hrow1.free I; have HST := Lib.hid (hrow1.set I 1).1; clear hown1 hgrow1)
  have HR0 : Hid (IRow (w1.setCell ⟨w.heap.size, I, none⟩ (.int .i64 1)) w.heap.size (.slice (some ⟨w.heap.size, 0, none⟩) (G + 1) (G + 1)) (fr (gw I G 0) (G + 1))) := Lib.hid (by
    have := HST.out
    rw [hw_first] at this
    exact this)
  have HB0 : Hid (Below w.heap.size w (w1.setCell ⟨w.heap.size, I, none⟩ (.int .i64 1))) := Lib.hid (hb1.setCell (p := ⟨w.heap.size, I, none⟩) (Nat.le_refl _) _)
  clear hrow1 hb1 hc1 hf1 HST
  go_loopw [2, 8] (fun m v wq => ∃ (q h : Nat), q ≤ K ∧ m = .int .i64 ((K : Int) - q) ∧ v = .slice (some ⟨h, 0, none⟩) (G + 1) (G + 1) ∧ IRow wq w.heap.size (.slice (some ⟨h, 0, none⟩) (G + 1) (G + 1)) (fr (gw I G q) (G + 1)) ∧ Below w.heap.size w wq) (fun m _ _ => (intOf m).toNat)
  case atStart => exact ⟨0, w.heap.size, Nat.zero_le _, by go_num, rfl, HR0.out, HB0.out⟩
  case round =>
    obtain ⟨q, h, hq, rfl, rfl, hrow, hbw⟩ := hrel
    clear HR0 HB0
    by_cases hlq : q < K
    · obtain ⟨w0, rfl⟩ : ∃ w0, w0 = wr := ⟨_, rfl⟩
      have hhl := hrow.lt.2
      have i0' : 0 < (K : Int) - (q : Int) := by omega
      have HROW := Lib.hid hrow
      have HBW := Lib.hid hbw
      clear hrow hbw
      go_wp2_with (refine wpList_make_full _ rfl (.tmp 37) (.tmp 37) 51 rfl w0.heap.size 3 i0 (.int .i64 0) 1 Try.underlying51 hi0 hz0 hz1 .i64 .i64 _ _ (G + 1) rfl rfl (by omega) (by omega) (by rw [hz2]; omega) (by unfold maxLen; omega) (Nat.le_refl _) ?_; intro w2 hown2 hgrow2)
      have HR2 : Hid (IRow w2 w0.heap.size (.slice (some ⟨w0.heap.size, 0, none⟩) (G + 1) (G + 1)) (fr (cwP (gw I G q) 1) (G + 1))) := Lib.hid (IRow.of_own hown2 (by simp [fr_length]) (by rw [← cwP_one, madeOne _ rfl]; simp))
      have HB2 : Hid (Below w0.heap.size w0 w2) := Lib.hid ((Below.refl _ _).grown hgrow2 (Nat.le_refl _) (by simp))
      clear hown2 hgrow2
      have HXX : Hid (∀ X, Below w0.heap.size w0 X → ∀ j, j < G + 1 → X.cell? ⟨h, j, none⟩ = some (.int .i64 (gw I G q j))) := Lib.hid fun X hX j hj => by
          have := (HROW.out.below hX).cell (j := j) (by rw [fr_length]; omega)
          rw [fr_get _ _ _ (by omega)] at this
          exact this
      have HSM : Hid (∀ j, j ≤ G → 0 ≤ gw I G q j ∧ gw I G q j ≤ 262144) := Lib.hid fun j hj => cw_bd (by omega) (by omega) hj
      have HSP : Hid (∀ m j, m ≤ G → j ≤ G → 0 ≤ cwP (gw I G q) m j ∧ cwP (gw I G q) m j ≤ 524288) := Lib.hid fun m j hm hj => cwP_bd (by omega) (by omega) hm hj
      go_loopw [10] (fun x wz => ∃ p : Nat, p + 1 ≤ G ∧ x = .int .i64 ((p : Int) + 1) ∧ IRow wz w0.heap.size (.slice (some ⟨w0.heap.size, 0, none⟩) (G + 1) (G + 1)) (fr (cwP (gw I G q) (p + 1)) (G + 1)) ∧ Below w0.heap.size w0 wz) (fun x _ => G + 1 - (intOf x).toNat)
      case atStart => exact ⟨0, by omega, rfl, HR2.out, HB2.out⟩
      case round =>
        obtain ⟨p, hp, rfl, hrow, hb⟩ := hrel
        clear HR2 HB2
        by_cases hlm : p + 1 < G
        · have n0 := HXX.out _ hb (p + 1) (by omega)
          have HBZ := Lib.hid hb
          have x1 := HSM.out (p + 1) (by omega)
          have HE := Lib.hid (cwP_mid (f := gw I G q) (s := p) (G + 1))
          have e2 := hrow.cell (j := p + 1 + 1) (by rw [fr_length]; omega)
          rw [fr_get _ _ _ (by omega)] at e2
          have e0 := hrow.cell (j := p) (by rw [fr_length]; omega)
          rw [fr_get _ _ _ (by omega)] at e0
          have r2 := hrow.free (p + 1 + 1)
          have HST := Lib.hid (hrow.set (p + 1 + 1) (cwP (gw I G q) (p + 1) (p + 1 + 1) + gw I G q (p + 1))).1
          have y2 := HSP.out (p + 1) (p + 1 + 1) (by omega) (by omega)
          have y0 := HSP.out (p + 1) p (by omega) (by omega)
          have i1 : (p : Int) + 1 < (G : Int) := by omega
          have i2 : (p : Int) + 1 < (G : Int) + 1 := by omega
          have i3 : (p : Int) + 1 + 1 < (G : Int) + 1 := by omega
          have i4 : (p : Int) < (G : Int) + 1 := by omega
          clear hrow hb
          generalize fr (cwP (gw I G q) (p + 1)) (G + 1) = L at *
          obtain ⟨x, hx⟩ : ∃ x, x = gw I G q (p + 1) := ⟨_, rfl⟩
          rw [← hx] at n0 x1 HE HST
          have HXE := Lib.hid hx
          clear hx
          generalize cwP (gw I G q) (p + 1) (p + 1 + 1) = y at *
          generalize cwP (gw I G q) (p + 1) p = z at *
          have E0 := Lib.hid e0
          clear e0
          go_wp2_with fail
          go_region
          go_wp2_with fail
          refine wp_nameR (fun X => IRow X w0.heap.size (.slice (some ⟨w0.heap.size, 0, none⟩) (G + 1) (G + 1)) (L.set (p + 1 + 1) (y + x)) ∧ Below w0.heap.size w0 X ∧ X.cell? ⟨w0.heap.size, p, none⟩ = some (.int .i64 z))
            ⟨HST.out, (HBZ.out.setCell (p := ⟨w0.heap.size, p + 1 + 1, none⟩) (Nat.le_refl _) _).drew, (World.cell?_setCell_other _ _ _ _ (by intro e; injection e with e1 e2; omega)).trans E0.out⟩ ?_
          rintro X ⟨hrow, hb, e0⟩
          clear n0 e2 r2 HST HBZ E0
          have n0 := HXX.out _ hb (p + 1) (by omega)
          rw [← HXE.out] at n0
          have r0 := hrow.free p
          have HST := Lib.hid (hrow.set p (z + x)).1
          have HBZ := Lib.hid hb
          clear hrow hb
          go_region
          go_wp2_with fail
          go_roundw
          case rel => exact ⟨p + 1, by omega, by go_num, by rw [← HE.out]; exact HST.out, (HBZ.out.setCell (p := ⟨w0.heap.size, p, none⟩) (Nat.le_refl _) _).drew⟩
          case measure => first | (simp [intOf]; done) | (simp [intOf]; omega)
        · have hpG : p + 1 = G := by omega
          rw [hpG] at hrow
          have HRZ := Lib.hid hrow
          have HBZ := Lib.hid hb
          have i1 : ¬ (p : Int) + 1 < (G : Int) := by omega
          clear hrow hb hpG
          go_wp2_with fail
          go_roundw
          case rel => exact ⟨q + 1, w0.heap.size, by omega, by rw [show (K : Int) - (q : Int) - 1 = (K : Int) - ((q + 1 : Nat) : Int) by omega], rfl, HRZ.out.mono HBW.out.size, HBW.out.trans (HBZ.out.mono HBW.out.size)⟩
          case measure => first | (simp [intOf]; done) | (simp [intOf]; omega)
    · obtain rfl : q = K := by omega
      have i0' : ¬ 0 < (q : Int) - (q : Int) := by omega
      have e0 := hrow.cell (j := G) (by rw [fr_length]; omega)
      rw [fr_get _ _ _ (by omega)] at e0
      have i1 : (G : Int) < (G : Int) + 1 := by omega
      clear hrow
      go_wp2_with fail
      go_ret2
      exact ⟨rfl, hbw⟩
end Go.Proofs.Ytfimcadnlhohlaa
