/- The model's ruHeld. -/
import Derived.Test.YtfimcadnlhohlaaHwMath
import Derived.Test.YtfimcadnlhohlaaRzS
import Derived.Test.YtfimcadnlhohlaaOwn
namespace Go.Proofs.Ytfimcadnlhohlaa
open Go.RowKit
set_option linter.unusedVariables false
def BoxAt (b : Nat) (n d : Int) (X : World) : Prop := X.cell? ⟨b, 0, none⟩ = some (.int .i64 n) ∧ X.cell? ⟨b, 1, none⟩ = some (.int .i64 d)
set_option maxRecDepth 100000 in
set_option maxHeartbeats 4000000 in
theorem ruHeld_any (i g k : Nat) (n d : Int) (w : World) (hi : i ≤ g) (hg : 1 ≤ g ∧ g ≤ 12) (hn : 1 ≤ n) (hd : n ≤ d) (hd6 : d ≤ 6) (hk : k ≤ 18) :
    Calls Try.prog 68 #[.int .i64 (i : Int), .int .i64 (g : Int), .agg #[.int .i64 n, .int .i64 d], .int .i64 (k : Int)] w (IntsNew w (fr (hw i g n d k) (g + 1))) := by
  obtain ⟨i0, hi0, hz0, hz1, hz2⟩ := info_parts intInfo
  obtain ⟨W, hW⟩ : ∃ W, W = w.alloc (.cells #[.int .i64 n, .int .i64 d] 25) := ⟨_, rfl⟩
  have hbx : RBox w w.heap.size n d W := by rw [hW]; exact RBox.start w n d
  have hz : W.heap.size = w.heap.size + 1 := by rw [hW]; simp
  have HBX := Lib.hid hbx
  have HW := Lib.hid hW
  have HZ := Lib.hid hz
  clear hbx hz hW
  go_enter Try.func68, Try.ntmps68
  go_wp2_with (rw [← HW.out]; refine wpList_make_full _ rfl (.tmp 14) (.tmp 14) 51 rfl W.heap.size 3 i0 (.int .i64 0) 1 Try.underlying51 hi0 hz0 hz1 .i64 .i64 _ _ (g + 1) rfl rfl (by omega) (by omega) (by rw [hz2]; omega) (by unfold maxLen; omega) (Nat.le_refl _) ?_; intro w1 hown1 hgrow1; have hrow1 : IRow w1 W.heap.size (.slice (some ⟨W.heap.size, 0, none⟩) (g + 1) (g + 1)) (List.replicate (g + 1) 0) := (IRow.of_own hown1 (by simp) (by rw [madeOne _ rfl]; simp)); have hb1 : Below W.heap.size W w1 := ((Below.refl _ _).grown hgrow1 (Nat.le_refl _) (by simp)); have hc1 := hrow1.cell (j := i) (by simp; omega); have hf1 := hrow1.free i; have HST := Lib.hid (hrow1.set i 1).1; clear hown1 hgrow1)
  have HR0 : Hid (IRow (w1.setCell ⟨W.heap.size, i, none⟩ (.int .i64 1)) W.heap.size (.slice (some ⟨W.heap.size, 0, none⟩) (g + 1) (g + 1)) (fr (hw i g n d 0) (g + 1))) := Lib.hid (by
    have := HST.out
    rw [hw_first] at this
    exact this)
  have HB0 : Hid (RBox w w.heap.size n d (w1.setCell ⟨W.heap.size, i, none⟩ (.int .i64 1))) := Lib.hid (HBX.out.kept (hb1.setCell (p := ⟨W.heap.size, i, none⟩) (Nat.le_refl _) _))
  clear hrow1 hb1 hc1 hf1 HST
  go_loopw [3, 9] (fun m v wq => ∃ (q h : Nat), q ≤ k ∧ m = .int .i64 ((k : Int) - q) ∧ v = .slice (some ⟨h, 0, none⟩) (g + 1) (g + 1) ∧ IRow wq W.heap.size (.slice (some ⟨h, 0, none⟩) (g + 1) (g + 1)) (fr (hw i g n d q) (g + 1)) ∧ RBox w w.heap.size n d wq ∧ W.heap.size ≤ wq.heap.size) (fun m _ _ => (intOf m).toNat)
  case atStart => exact ⟨0, W.heap.size, Nat.zero_le _, by go_num, rfl, HR0.out, HB0.out, by have := HR0.out.lt; omega⟩
  case round =>
    obtain ⟨q, h, hq, rfl, rfl, hrow, hbx, hsz⟩ := hrel
    clear HR0 HB0
    by_cases hlq : q < k
    · obtain ⟨w0, rfl⟩ : ∃ w0, w0 = wr := ⟨_, rfl⟩
      have hhl := hrow.lt.2
      have i0' : 0 < (k : Int) - (q : Int) := by omega
      have HROW := Lib.hid hrow
      have HB := Lib.hid hbx
      clear hrow hbx
      go_wp2_with (refine wpList_make_full _ rfl (.tmp 24) (.tmp 24) 51 rfl w0.heap.size 3 i0 (.int .i64 0) 1 Try.underlying51 hi0 hz0 hz1 .i64 .i64 _ _ (g + 1) rfl rfl (by omega) (by omega) (by rw [hz2]; omega) (by unfold maxLen; omega) (Nat.le_refl _) ?_; intro w2 hown2 hgrow2)
      have HR2 : Hid (IRow w2 w0.heap.size (.slice (some ⟨w0.heap.size, 0, none⟩) (g + 1) (g + 1)) (fr (hwP g n d (hw i g n d q) 0) (g + 1))) := Lib.hid (IRow.of_own hown2 (by simp [fr_length]) (by rw [← hwP_zero, madeOne _ rfl]; simp))
      have HB2 : Hid (Below w0.heap.size w0 w2) := Lib.hid ((Below.refl _ _).grown hgrow2 (Nat.le_refl _) (by simp))
      clear hown2 hgrow2
      have HXX : Hid (∀ X, Below w0.heap.size w0 X → BoxAt w.heap.size n d X ∧ ∀ j, j < g + 1 → X.cell? ⟨h, j, none⟩ = some (.int .i64 (hw i g n d q j))) := Lib.hid fun X hX =>
        ⟨⟨(HB.out.kept hX).1, (HB.out.kept hX).2.1⟩, fun j hj => by
          have := (HROW.out.below hX).cell (j := j) (by rw [fr_length]; omega)
          rw [fr_get _ _ _ (by omega)] at this
          exact this⟩
      have HSM : Hid (∀ j, j ≤ g → 0 ≤ hw i g n d q j ∧ hw i g n d q j ≤ 101559956668416) := Lib.hid fun j hj => hw_bd hi (by omega) hd hd6 (by omega) hj
      have HSP : Hid (∀ m j, m ≤ g + 1 → j ≤ g → 0 ≤ hwP g n d (hw i g n d q) m j ∧ hwP g n d (hw i g n d q) m j ≤ 101559956668416) := Lib.hid fun m j hm hj => hwP_bd hi (by omega) hd hd6 (by omega) hm hj
      go_loopw [28] (fun x wz => ∃ m : Nat, m ≤ g + 1 ∧ x = .int .i64 (m : Int) ∧ IRow wz w0.heap.size (.slice (some ⟨w0.heap.size, 0, none⟩) (g + 1) (g + 1)) (fr (hwP g n d (hw i g n d q) m) (g + 1)) ∧ Below w0.heap.size w0 wz) (fun x _ => g + 1 - (intOf x).toNat)
      case atStart => exact ⟨0, Nat.zero_le _, rfl, HR2.out, HB2.out⟩
      case round =>
        obtain ⟨m, hm, rfl, hrow, hb⟩ := hrel
        clear HR2 HB2
        by_cases hlm : m < g + 1
        · obtain ⟨⟨b0, b1⟩, hcN⟩ := HXX.out _ hb
          have n0 := hcN m (by omega)
          have e1 := hrow.cell (j := m) (by rw [fr_length]; omega)
          rw [fr_get _ _ _ (by omega)] at e1
          have r1 := hrow.free m
          have x1 := HSM.out m (by omega)
          have x2 := HSP.out m m (by omega) (by omega)
          have x3 := mul_le_of' (y := d) (B := 6) x1 (by omega)
          have i1 : (m : Int) < (g : Int) + 1 := by omega
          have HBZ := Lib.hid hb
          by_cases hed : m = 0 ∨ m = g
          · have HE := Lib.hid (hwP_edge (n := n) (d := d) (f := hw i g n d q) hed (g + 1))
            have HST := Lib.hid (hrow.set m (hwP g n d (hw i g n d q) m m + hw i g n d q m * d)).1
            clear hrow hb hcN
            generalize hw i g n d q m = x at *
            generalize hwP g n d (hw i g n d q) m m = y at *
            by_cases h0 : m = 0
            · have j1 : ((m : Int) == 0) = true := by rw [beq_iff_eq]; omega
              clear hed h0
              go_wp2_with fail
              go_region
              go_wp2_with fail
              go_roundw
              case rel => exact ⟨m + 1, by omega, by go_num, by rw [← HE.out]; exact HST.out, (HBZ.out.setCell (p := ⟨w0.heap.size, m, none⟩) (Nat.le_refl _) _).drew⟩
              case measure => first | (simp [intOf]; done) | (simp [intOf]; omega)
            · have j1 : ((m : Int) == 0) = false := by rw [beq_eq_false_iff_ne]; omega
              have j2 : ((m : Int) == (g : Int)) = true := by rw [beq_iff_eq]; omega
              clear hed h0
              go_wp2_with fail
              go_region
              go_wp2_with fail
              go_roundw
              case rel => exact ⟨m + 1, by omega, by go_num, by rw [← HE.out]; exact HST.out, (HBZ.out.setCell (p := ⟨w0.heap.size, m, none⟩) (Nat.le_refl _) _).drew⟩
              case measure => first | (simp [intOf]; done) | (simp [intOf]; omega)
          · obtain ⟨p, hp⟩ : ∃ p, m = p + 1 := ⟨m - 1, by omega⟩
            subst hp
            have HE := Lib.hid (hwP_mid (n := n) (d := d) (f := hw i g n d q) hed (g + 1))
            have e2 := hrow.cell (j := p + 1 + 1) (by rw [fr_length]; omega)
            rw [fr_get _ _ _ (by omega)] at e2
            have e0 := hrow.cell (j := p) (by rw [fr_length]; omega)
            rw [fr_get _ _ _ (by omega)] at e0
            have r2 := hrow.free (p + 1 + 1)
            have HST := Lib.hid (hrow.set (p + 1 + 1) (hwP g n d (hw i g n d q) (p + 1) (p + 1 + 1) + hw i g n d q (p + 1) * n)).1
            have y2 := HSP.out (p + 1) (p + 1 + 1) (by omega) (by omega)
            have y0 := HSP.out (p + 1) p (by omega) (by omega)
            have x4 := mul_le_of' (y := n) (B := 6) x1 (by omega)
            have x5 := mul_le_of' (y := d - n) (B := 6) x1 (by omega)
            have i2 : (p : Int) + 1 < (g : Int) + 1 := by omega
            have i3 : (p : Int) + 1 + 1 < (g : Int) + 1 := by omega
            have i4 : (p : Int) < (g : Int) + 1 := by omega
            have j1 : ((p : Int) + 1 == 0) = false := by rw [beq_eq_false_iff_ne]; omega
            have j2 : ((p : Int) + 1 == (g : Int)) = false := by rw [beq_eq_false_iff_ne]; omega
            clear hrow hb hcN e1 r1 x2 x3
            generalize fr (hwP g n d (hw i g n d q) (p + 1)) (g + 1) = L at *
            generalize hw i g n d q (p + 1) = x at *
            generalize hwP g n d (hw i g n d q) (p + 1) (p + 1 + 1) = y at *
            generalize hwP g n d (hw i g n d q) (p + 1) p = z at *
            have E0 := Lib.hid e0
            clear hed e0
            go_wp2_with fail
            go_region
            go_wp2_with fail
            refine wp_nameR (fun X => IRow X w0.heap.size (.slice (some ⟨w0.heap.size, 0, none⟩) (g + 1) (g + 1)) (L.set (p + 1 + 1) (y + x * n)) ∧ Below w0.heap.size w0 X ∧ X.cell? ⟨w0.heap.size, p, none⟩ = some (.int .i64 z))
              ⟨HST.out, (HBZ.out.setCell (p := ⟨w0.heap.size, p + 1 + 1, none⟩) (Nat.le_refl _) _).drew, (World.cell?_setCell_other _ _ _ _ (by intro e; injection e with e1 e2; omega)).trans E0.out⟩ ?_
            rintro X ⟨hrow, hb, e0⟩
            clear n0 e2 r2 HST HBZ E0 b0 b1
            obtain ⟨⟨b0, b1⟩, hcN⟩ := HXX.out _ hb
            have r0 := hrow.free p
            have HST := Lib.hid (hrow.set p (z + x * (d - n))).1
            have HBZ := Lib.hid hb
            clear hrow hb hcN
            go_region
            go_wp2_with fail
            go_roundw
            case rel => exact ⟨p + 1 + 1, by omega, by go_num, by rw [← HE.out]; exact HST.out, (HBZ.out.setCell (p := ⟨w0.heap.size, p, none⟩) (Nat.le_refl _) _).drew⟩
            case measure => first | (simp [intOf]; done) | (simp [intOf]; omega)
        · obtain rfl : m = g + 1 := by omega
          have HRZ := Lib.hid hrow
          have HBZ := Lib.hid hb
          clear hrow hb
          go_wp2_with fail
          go_roundw
          case rel => exact ⟨q + 1, w0.heap.size, by omega, by rw [show (k : Int) - (q : Int) - 1 = (k : Int) - ((q + 1 : Nat) : Int) by omega], rfl, HRZ.out.mono hsz, HB.out.kept HBZ.out, Nat.le_trans hsz HBZ.out.size⟩
          case measure => first | (simp [intOf]; done) | (simp [intOf]; omega)
    · obtain rfl : q = k := by omega
      have i0' : ¬ 0 < (q : Int) - (q : Int) := by omega
      have HROW := Lib.hid hrow
      clear hrow
      go_wp2_with fail
      go_ret
      exact ⟨_, rfl, HROW.out.mono (by have := HZ.out; omega), hbx.2.2.2⟩
end Go.Proofs.Ytfimcadnlhohlaa
