/- The model's kiCount. -/
import Derived.Test.YtnmmgpmhpjjehaaKcMath
import Derived.Test.YtnmmgpmhpjjehaaOwn
namespace Go.Proofs.Ytnmmgpmhpjjehaa
open Go.RowKit
set_option linter.unusedVariables false
set_option maxRecDepth 100000 in
set_option maxHeartbeats 4000000 in
theorem kiCount_ret (n u f d : Nat) (fl : Bool) (w : World) (hn : n ≤ 12) (hu : u ≤ 9) (hf : f ≤ 9) (hd : d ≤ 9) :
    Calls Try.prog 78 #[.int .i64 (n : Nat), .int .i64 (u : Nat), .int .i64 (f : Nat), .int .i64 (d : Nat), .bool fl] w (Ret w (.int .i64 (kcN n u f d fl))) := by
  obtain ⟨i0, hi0, hz0, hz1, hz2⟩ := info_parts intInfo
  go_enter Try.func78, Try.ntmps78
  go_wp2_with (refine wpList_make_full _ rfl (.tmp 16) (.tmp 16) 40 rfl w.heap.size 3 i0 (.int .i64 0) 1 Try.underlying40 hi0 hz0 hz1 .i64 .i64 _ _ (n + 2) rfl rfl (by omega) (by omega) (by rw [hz2]; omega) (by unfold maxLen; omega) (Nat.le_refl _) ?_; intro w1 hown1 hgrow1; have hrow1 : IRow w1 w.heap.size (.slice (some ⟨w.heap.size, 0, none⟩) (n + 2) (n + 2)) (List.replicate (n + 2) 0) := (IRow.of_own hown1 (by simp) (by rw [madeOne _ rfl]; simp)); have hb1 : Below w.heap.size w w1 := ((Below.refl _ _).grown hgrow1 (Nat.le_refl _) (by simp)); have hc1 := hrow1.cell (j := 0) (by simp); have hf1 := hrow1.free 0; have HST := Lib.hid (hrow1.set 0 1).1; clear hown1 hgrow1)
  have HR0 : Hid (IRow (w1.setCell ⟨w.heap.size, 0, none⟩ (.int .i64 1)) w.heap.size (.slice (some ⟨w.heap.size, 0, none⟩) (n + 2) (n + 2)) (fr (fun j => ((kc u f d fl 0 j : Nat) : Int)) (n + 2))) := Lib.hid (by rw [← kc_first]; exact HST.out)
  have HB0 := Lib.hid (hb1.setCell (p := ⟨w.heap.size, 0, none⟩) (Nat.le_refl _) (.int .i64 1))
  clear hrow1 hb1 hc1 hf1 HST
  go_loopw [11, 12] (fun v i wq => ∃ (k g : Nat), k ≤ n ∧ i = .int .i64 (k : Int) ∧ v = .slice (some ⟨g, 0, none⟩) (n + 2) (n + 2) ∧ IRow wq w.heap.size (.slice (some ⟨g, 0, none⟩) (n + 2) (n + 2)) (fr (fun j => ((kc u f d fl k j : Nat) : Int)) (n + 2)) ∧ Below w.heap.size w wq) (fun _ i _ => n - (intOf i).toNat)
  case atStart => exact ⟨0, w.heap.size, Nat.zero_le _, rfl, rfl, HR0.out, HB0.out⟩
  case round =>
    obtain ⟨k, g, hk, rfl, rfl, hrow, hb⟩ := hrel
    by_cases hlk : k < n
    · obtain ⟨w0, rfl⟩ : ∃ w0, w0 = wr := ⟨_, rfl⟩
      have hgl := (hrow.blk g rfl).2
      have hsz0 := hb.size
      go_wp2_with (refine wpList_make_full _ rfl (.tmp 26) (.tmp 26) 40 rfl w0.heap.size 3 i0 (.int .i64 0) 1 Try.underlying40 hi0 hz0 hz1 .i64 .i64 _ _ (n + 2) rfl rfl (by omega) (by omega) (by rw [hz2]; omega) (by unfold maxLen; omega) (Nat.le_refl _) ?_; intro w2 hown2 hgrow2)
      have hrow2 : IRow w2 w0.heap.size (.slice (some ⟨w0.heap.size, 0, none⟩) (n + 2) (n + 2)) (fr (kcP u f d fl k 0) (n + 2)) :=
        IRow.of_own hown2 (by simp [fr_length]) (by rw [← kcP_zero, madeOne _ rfl]; simp)
      have hb2 : Below w0.heap.size w0 w2 := (Below.refl _ _).grown hgrow2 (Nat.le_refl _) (by simp)
      clear hown2 hgrow2
      have HR2 := Lib.hid hrow2
      have HB2 := Lib.hid hb2
      have HOLD := Lib.hid hrow
      have HB := Lib.hid hb
      clear hrow2 hb2 hrow hb HR0 HB0
      go_loopw [14] (fun i wz => ∃ p : Nat, p ≤ k + 1 ∧ i = .int .i64 (p : Int) ∧ IRow wz w0.heap.size (.slice (some ⟨w0.heap.size, 0, none⟩) (n + 2) (n + 2)) (fr (kcP u f d fl k p) (n + 2)) ∧ Below w0.heap.size w0 wz) (fun i _ => k + 1 - (intOf i).toNat)
      case atStart => exact ⟨0, Nat.zero_le _, rfl, HR2.out, HB2.out⟩
      case round =>
        obtain ⟨h, hh, rfl, hrow, hb⟩ := hrel
        clear HR2 HB2
        by_cases hlh : h < k + 1
        · have hold := HOLD.out.below hb
          have c0 := hold.cell (j := h) (by rw [fr_length]; omega)
          rw [fr_get _ _ _ (by omega)] at c0
          have d2 := hrow.cell (j := h + 1) (by rw [fr_length]; omega)
          have d1 := hrow.cell (j := h) (by rw [fr_length]; omega)
          rw [fr_get _ _ _ (by omega)] at d2 d1
          have f2 := hrow.free (h + 1)
          have f1 := hrow.free h
          have hcs : kc u f d fl k h ≤ 5559060566555523 := by
            have h1 := kc_le (fl := fl) hu hf hd k h
            have h2 : 27 ^ k ≤ 27 ^ 11 := Nat.pow_le_pow_right (by omega) (by omega)
            have h3 : (27 : Nat) ^ 11 = 5559060566555523 := by decide
            omega
          have m1 : 0 ≤ (u : Int) * (kc u f d fl k h : Nat) ∧ (u : Int) * (kc u f d fl k h : Nat) ≤ 50031545098999707 := by
            have := Nat.mul_le_mul hu hcs
            rw [← Int.natCast_mul]; omega
          have m2 : 0 ≤ (d : Int) * (kc u f d fl k h : Nat) ∧ (d : Int) * (kc u f d fl k h : Nat) ≤ 50031545098999707 := by
            have := Nat.mul_le_mul hd hcs
            rw [← Int.natCast_mul]; omega
          have m3 : 0 ≤ (f : Int) * (kc u f d fl k h : Nat) ∧ (f : Int) * (kc u f d fl k h : Nat) ≤ 50031545098999707 := by
            have := Nat.mul_le_mul hf hcs
            rw [← Int.natCast_mul]; omega
          have q1 := kcP_bd (fl := fl) hu hf hd (show k ≤ 11 by omega) h (h + 1)
          have q2 := kcP_bd (fl := fl) hu hf hd (show k ≤ 11 by omega) h h
          have hgne : g ≠ w0.heap.size := by omega
          have i1 : (h : Int) < (n : Int) + 2 := by omega
          have i2 : (h : Int) + 1 < (n : Int) + 2 := by omega
          have i3 : 0 ≤ (h : Int) + 1 := by omega
          have i4 : (h : Int) ≤ (k : Int) := by omega
          clear hold
          cases h with
          | zero =>
            have HU := Lib.hid (kcP_up u f d fl k 0)
            cases fl with
            | false =>
              have hst := (hrow.set 1 (kcP u f d false k 1 1)).1
              rw [kcP_set1, kcP_up] at hst
              have HST := Lib.hid hst
              have HBZ := Lib.hid hb
              clear hrow hb hst
              simp only [Nat.zero_add] at *
              generalize kcP u f d false k 0 1 = e2 at *
              generalize kcP u f d false k 0 0 = e1 at *
              generalize kc u f d false k 0 = c at *
              go_wp2_with fail
              go_region
              go_wp2_with fail
              go_roundw
              case rel => exact ⟨1, by omega, by go_num, HST.out, (HBZ.out.setCell (p := ⟨w0.heap.size, 1, none⟩) (Nat.le_refl _) _).drew⟩
              case measure => first | (simp [intOf]; done) | (simp [intOf]; omega)
            | true =>
              have hst := ((hrow.set 1 (kcP u f d true k 1 1)).1.set 0 (kcP u f d true k 1 0)).1
              rw [kcP_set0, kcP_up, kcP_flat u f d true k 0 (.inr rfl)] at hst
              have HST := Lib.hid hst
              have HBZ := Lib.hid hb
              clear hrow hb hst
              simp only [Nat.zero_add] at *
              generalize kcP u f d true k 0 1 = e2 at *
              generalize kcP u f d true k 0 0 = e1 at *
              generalize kc u f d true k 0 = c at *
              have k1 : (wr.setCell ⟨w0.heap.size, 1, none⟩ (.int .i64 (e2 + (u : Int) * (c : Nat)))).cell? ⟨w0.heap.size, 0, none⟩ = some (.int .i64 e1) := (World.cell?_setCell_other _ _ _ _ (by simp)).trans d1
              have k2 : (wr.setCell ⟨w0.heap.size, 1, none⟩ (.int .i64 (e2 + (u : Int) * (c : Nat)))).cell? ⟨g, 0, none⟩ = some (.int .i64 (c : Nat)) := (World.cell?_setCell_other _ _ _ _ (by intro e; injection e with e1 e2; exact hgne e1.symm)).trans c0
              go_wp2_with fail
              go_region
              clear c0 d1 d2
              go_wp2_with fail
              go_region
              go_wp2_with fail
              go_roundw
              case rel => exact ⟨1, by omega, by go_num, HST.out, ((HBZ.out.setCell (p := ⟨w0.heap.size, 1, none⟩) (Nat.le_refl _) _).setCell (p := ⟨w0.heap.size, 0, none⟩) (Nat.le_refl _) _).drew.drew⟩
              case measure => first | (simp [intOf]; done) | (simp [intOf]; omega)
          | succ p =>
            have d0 := hrow.cell (j := p) (by rw [fr_length]; omega)
            rw [fr_get _ _ _ (by omega)] at d0
            have f0 := hrow.free p
            have q3 := kcP_bd (fl := fl) hu hf hd (show k ≤ 11 by omega) (p + 1) p
            have hst := (((hrow.set (p + 1 + 1) (kcP u f d fl k (p + 1 + 1) (p + 1 + 1))).1.set p (kcP u f d fl k (p + 1 + 1) p)).1.set (p + 1) (kcP u f d fl k (p + 1 + 1) (p + 1))).1
            rw [kcP_set, kcP_up, kcP_down, kcP_flat u f d fl k (p + 1) (.inl (by omega))] at hst
            have HST := Lib.hid hst
            have HBZ := Lib.hid hb
            clear hrow hb hst
            generalize kcP u f d fl k (p + 1) (p + 1 + 1) = e2 at *
            generalize kcP u f d fl k (p + 1) (p + 1) = e1 at *
            generalize kcP u f d fl k (p + 1) p = e0 at *
            generalize kc u f d fl k (p + 1) = c at *
            have hne : ∀ o : Nat, (⟨w0.heap.size, o, none⟩ : Addr) ≠ ⟨g, p + 1, none⟩ := fun o e => by injection e with e1 e2; exact hgne e1.symm
            have k1 : (wr.setCell ⟨w0.heap.size, p + 1 + 1, none⟩ (.int .i64 (e2 + (u : Int) * (c : Nat)))).cell? ⟨w0.heap.size, p, none⟩ = some (.int .i64 e0) := (World.cell?_setCell_other _ _ _ _ (by simp)).trans d0
            have k2 : (wr.setCell ⟨w0.heap.size, p + 1 + 1, none⟩ (.int .i64 (e2 + (u : Int) * (c : Nat)))).cell? ⟨g, p + 1, none⟩ = some (.int .i64 (c : Nat)) := (World.cell?_setCell_other _ _ _ _ (hne _)).trans c0
            have k3 : ((wr.setCell ⟨w0.heap.size, p + 1 + 1, none⟩ (.int .i64 (e2 + (u : Int) * (c : Nat)))).setCell ⟨w0.heap.size, p, none⟩ (.int .i64 (e0 + (d : Int) * (c : Nat)))).cell? ⟨w0.heap.size, p + 1, none⟩ = some (.int .i64 e1) := (World.cell?_setCell_other _ _ _ _ (by simp)).trans ((World.cell?_setCell_other _ _ _ _ (by simp)).trans d1)
            have k4 : ((wr.setCell ⟨w0.heap.size, p + 1 + 1, none⟩ (.int .i64 (e2 + (u : Int) * (c : Nat)))).setCell ⟨w0.heap.size, p, none⟩ (.int .i64 (e0 + (d : Int) * (c : Nat)))).cell? ⟨g, p + 1, none⟩ = some (.int .i64 (c : Nat)) := (World.cell?_setCell_other _ _ _ _ (hne _)).trans k2
            have i5 : (p : Int) < (n : Int) + 2 := by omega
            have i6 : (0 : Int) < (p : Int) + 1 := by omega
            go_wp2_with fail
            go_region
            clear c0 d0 d1 d2
            go_wp2_with fail
            go_region
            clear k1 k2
            go_wp2_with fail
            go_region
            go_wp2_with fail
            go_roundw
            case rel => exact ⟨p + 1 + 1, by omega, by go_num, HST.out, (((HBZ.out.setCell (p := ⟨w0.heap.size, p + 1 + 1, none⟩) (Nat.le_refl _) _).setCell (p := ⟨w0.heap.size, p, none⟩) (Nat.le_refl _) _).setCell (p := ⟨w0.heap.size, p + 1, none⟩) (Nat.le_refl _) _).drew.drew.drew⟩
            case measure => first | (simp [intOf]; done) | (simp [intOf]; omega)
        · obtain rfl : h = k + 1 := by omega
          have e : fr (kcP u f d fl k (k + 1)) (n + 2) = fr (fun j => ((kc u f d fl (k + 1) j : Nat) : Int)) (n + 2) := fr_congr fun j _ => kcP_all u f d fl k j
          rw [e] at hrow
          have HR3 := Lib.hid (hrow.mono hsz0)
          have HB3 := Lib.hid (HB.out.trans (hb.mono hsz0))
          clear hrow hb e
          have i1 : ¬ (k : Int) + 1 ≤ (k : Int) := by omega
          go_wp2_with fail
          go_roundw
          case rel => first
            | exact ⟨k + 1, w0.heap.size, by omega, by go_num, rfl, HR3.out, HB3.out⟩
            | exact ⟨k + 1, by omega, by go_num, HR3.out, HB3.out⟩
          case measure => first | (simp [intOf]; done) | (simp [intOf]; omega)
    · obtain rfl : k = n := by omega
      have hc0 := hrow.cell (j := 0) (by rw [fr_length]; omega)
      rw [fr_get _ _ _ (by omega)] at hc0
      clear hrow
      go_wp2
      go_ret
      exact ⟨rfl, hb⟩
end Go.Proofs.Ytnmmgpmhpjjehaa
