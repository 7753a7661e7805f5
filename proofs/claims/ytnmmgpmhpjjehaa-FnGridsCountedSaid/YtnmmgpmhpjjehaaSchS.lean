/- The model's CountSchroder. -/
import Derived.Test.YtnmmgpmhpjjehaaDelMath
import Derived.Test.YtnmmgpmhpjjehaaInB
import Derived.Test.YtnmmgpmhpjjehaaOwn
namespace Go.Proofs.Ytnmmgpmhpjjehaa
open Go.RowKit
set_option linter.unusedVariables false
set_option maxRecDepth 100000 in
set_option maxHeartbeats 2000000 in
theorem specSch_ret (a : Int) (w : World) : Calls Try.prog 26 #[.int .i64 a] w (Ret w (.tuple #[.int .i64 (schV a), .bool (schOk a)])) := by
  have HA := Lib.hid (in_any a 0 12)
  have eo : schOk a = inB a 0 12 := rfl
  rcases Bool.eq_false_or_eq_true (inB a 0 12) with ha | ha
  case inr =>
    have e1 : schOk a = false := by rw [eo, ha]
    have e2 : schV a = 0 := by unfold schV; rw [e1]; rfl
    rw [e1, e2]
    rw [ha] at HA
    clear e1 e2 eo
    go_enter Try.func26, Try.ntmps26
    go_wp2_with (go_at_call 71; refine (HA.out _).mono ?_; rintro e w' ⟨rfl, rfl⟩)
    go_ret2
    exact ⟨rfl, Below.refl _ _⟩
  have e1 : schOk a = true := by rw [eo, ha]
  have e2 : schV a = ((sch a.toNat a.toNat : Nat) : Int) := by unfold schV; rw [if_pos e1]
  rw [e1, e2]
  have ha2 := ha
  unfold inB at ha2
  simp only [Bool.and_eq_true, decide_eq_true_eq] at ha2
  obtain ⟨n, rfl⟩ : ∃ n : Nat, a = n := ⟨a.toNat, by omega⟩
  have hn : n ≤ 12 := by omega
  rw [Int.toNat_natCast]
  rw [ha] at HA
  clear e1 e2 eo ha ha2
  obtain ⟨i0, hi0, hz0, hz1, hz2⟩ := info_parts intInfo
  go_enter Try.func26, Try.ntmps26
  go_wp2_with (first
    | (go_at_call 71; refine (HA.out _).mono ?_; rintro e w' ⟨rfl, rfl⟩)
    | (refine wpList_make_full _ rfl (.tmp 13) (.tmp 13) 40 rfl w.heap.size 3 i0 (.int .i64 0) 1 Try.underlying40 hi0 hz0 hz1 .i64 .i64 _ _ (n + 1) rfl rfl (by omega) (by omega) (by rw [hz2]; omega) (by unfold maxLen; omega) (Nat.le_refl _) ?_; intro w1 hown1 hgrow1))
  have hrow1 : IRow w1 w.heap.size (.slice (some ⟨w.heap.size, 0, none⟩) (n + 1) (n + 1)) (fil (fun _ => 1) (n + 1) 0) :=
    IRow.of_own hown1 (by simp [fil_length]) (by rw [fil_zero, madeOne _ rfl]; simp)
  have hb1 : Below w.heap.size w w1 := (Below.refl _ _).grown hgrow1 (Nat.le_refl _) (by simp)
  clear hown1 hgrow1
  go_loopw [5, 17] (fun q i wr => ∃ j : Nat, j ≤ n + 1 ∧ i = .int .i64 (j : Int) ∧ IRow wr w.heap.size (.slice (some ⟨w.heap.size, 0, none⟩) (n + 1) (n + 1)) (fil (fun _ => 1) (n + 1) j) ∧ Below w.heap.size w wr) (fun _ i _ => n + 1 - (intOf i).toNat)
  case atStart => exact ⟨0, Nat.zero_le _, rfl, hrow1, hb1⟩
  case round =>
    obtain ⟨j, hj, rfl, hrow, hb⟩ := hrel
    by_cases hlt : j < n + 1
    · have hst := (hrow.set j 1).1
      have hf := hrow.free j
      have hc := hrow.cell (j := j) (by rw [fil_length]; omega)
      have HST : Hid (IRow (wr.setCell ⟨w.heap.size, j, none⟩ (.int .i64 1)) w.heap.size (.slice (some ⟨w.heap.size, 0, none⟩) (n + 1) (n + 1)) (fil (fun _ => 1) (n + 1) (j + 1))) := Lib.hid (by rw [← fil_set]; exact hst)
      have i1 : (j : Int) < (n : Int) + 1 := by omega
      clear hrow hst hrow1 hb1
      go_wp2
      go_roundw
      case rel => exact ⟨j + 1, by omega, by go_num, HST.out, hb.setCell (p := ⟨w.heap.size, j, none⟩) (Nat.le_refl _) _⟩
      case measure => simp [intOf]; omega
    · obtain rfl : j = n + 1 := by omega
      rw [fil_full] at hrow
      have HR0 := Lib.hid hrow
      have HB0 := Lib.hid hb
      clear hrow hb hrow1 hb1
      go_wp2
      go_loopw [4, 6] (fun v i wq => ∃ (y g : Nat), y ≤ n ∧ i = .int .i64 ((y + 1 : Nat) : Int) ∧ v = .slice (some ⟨g, 0, none⟩) (n + 1) (n + 1) ∧ IRow wq w.heap.size (.slice (some ⟨g, 0, none⟩) (n + 1) (n + 1)) (fr (fun j => ((sch y j : Nat) : Int)) (n + 1)) ∧ Below w.heap.size w wq) (fun _ i _ => n + 1 - (intOf i).toNat)
      case atStart => exact ⟨0, w.heap.size, Nat.zero_le _, rfl, rfl, HR0.out, HB0.out⟩
      case round =>
        obtain ⟨y, g, hy, rfl, rfl, hrow, hb⟩ := hrel
        by_cases hly : y < n
        · obtain ⟨w0, rfl⟩ : ∃ w0, w0 = wr := ⟨_, rfl⟩
          have hgl := (hrow.blk g rfl).2
          have i1 : (y : Int) + 1 ≤ (n : Int) := by omega
          have hsz0 := hb.size
          go_wp2_with (refine wpList_make_full _ rfl (.tmp 30) (.tmp 30) 40 rfl w0.heap.size 3 i0 (.int .i64 0) 1 Try.underlying40 hi0 hz0 hz1 .i64 .i64 _ _ (n + 1) rfl rfl (by omega) (by omega) (by rw [hz2]; omega) (by unfold maxLen; omega) (Nat.le_refl _) ?_; intro w2 hown2 hgrow2)
          have hrow2 : IRow w2 w0.heap.size (.slice (some ⟨w0.heap.size, 0, none⟩) (n + 1) (n + 1)) (fr (schF y (y + 1)) (n + 1)) :=
            IRow.of_own hown2 (by simp [fr_length]) (by rw [← schF_start, madeOne _ rfl]; simp)
          have hb2 : Below w0.heap.size w0 w2 := (Below.refl _ _).grown hgrow2 (Nat.le_refl _) (by simp)
          clear hown2 hgrow2
          have HR2 := Lib.hid hrow2
          have HB2 := Lib.hid hb2
          have HOLD := Lib.hid hrow
          have HB := Lib.hid hb
          clear hrow2 hb2 hrow hb
          go_loopw [8] (fun i wz => ∃ p : Nat, y ≤ p ∧ p ≤ n ∧ i = .int .i64 ((p + 1 : Nat) : Int) ∧ IRow wz w0.heap.size (.slice (some ⟨w0.heap.size, 0, none⟩) (n + 1) (n + 1)) (fr (schF y (p + 1)) (n + 1)) ∧ Below w0.heap.size w0 wz) (fun i _ => n + 1 - (intOf i).toNat)
          case atStart => exact ⟨y, Nat.le_refl _, by omega, rfl, HR2.out, HB2.out⟩
          case round =>
            obtain ⟨p, hyp, hp, rfl, hrow, hb⟩ := hrel
            by_cases hlp : p < n
            · have hold := HOLD.out.below hb
              have c1 := hold.cell (j := p + 1) (by rw [fr_length]; omega)
              have c0 := hold.cell (j := p) (by rw [fr_length]; omega)
              rw [fr_get _ _ _ (by omega)] at c1 c0
              have d1 := hrow.cell (j := p + 1) (by rw [fr_length]; omega)
              have d0 := hrow.cell (j := p) (by rw [fr_length]; omega)
              rw [fr_get _ _ _ (by omega)] at d1 d0
              have e1 : schF y (p + 1) (p + 1) = 0 := by unfold schF; rw [if_neg (by omega)]
              have e0 : schF y (p + 1) p = ((sch (y + 1) p : Nat) : Int) := by unfold schF; rw [if_pos (by omega)]
              rw [e1] at d1
              rw [e0] at d0
              have hf := hrow.free (p + 1)
              have hst := ((hrow.set (p + 1) (((sch y (p + 1) : Nat) : Int) + ((sch y p : Nat) : Int))).1.set (p + 1) ((sch (y + 1) (p + 1) : Nat) : Int)).1
              have hst1 := (hrow.set (p + 1) (((sch y (p + 1) : Nat) : Int) + ((sch y p : Nat) : Int))).1
              rw [schF_set] at hst
              have HSV : Hid (sch (y + 1) (p + 1) = sch y (p + 1) + sch y p + sch (y + 1) p) := Lib.hid (by rw [sch_step, if_neg (by omega)])
              have HZ : Hid (p = y → sch (y + 1) p = 0) := Lib.hid fun e => sch_low _ _ (by omega)
              have b1 := sch_small (y := y) (x := p + 1) (by omega) (by omega)
              have b2 := sch_small (y := y + 1) (x := p) (by omega) (by omega)
              have b3 := sch_small (y := y) (x := p) (by omega) (by omega)
              have HST := Lib.hid hst
              have HST1 := Lib.hid hst1
              have HBZ := Lib.hid hb
              have hgne : g ≠ w0.heap.size := by omega
              clear hrow hb hst hst1 e1 e0 hold HR2 HB2
              generalize hs0 : sch (y + 1) (p + 1) = s0 at *
              have HS0 := Lib.hid hs0
              clear hs0
              generalize sch y (p + 1) = s1 at *
              generalize sch (y + 1) p = s2 at *
              generalize sch y p = s3 at *
              have i1 : (p : Int) + 1 ≤ (n : Int) := by omega
              have i2 : (p : Int) < (n : Int) + 1 := by omega
              have i3 : (p : Int) + 1 < (n : Int) + 1 := by omega
              have i4 : 0 ≤ (p : Int) + 1 := by omega
              go_wp2_with fail
              go_region
              by_cases hgt : y < p
              · have i5 : (y : Int) + 1 < (p : Int) + 1 := by omega
                have HV : Hid ((s0 : Int) = s1 + s3 + s2) := Lib.hid (by have := HSV.out; omega)
                rw [HV.out] at HST
                have k1 := World.cell?_setCell_same' wr ⟨w0.heap.size, p + 1, none⟩ (.int .i64 ((s1 : Int) + s3)) (by rw [d1]; rfl)
                have k0 : (wr.setCell ⟨w0.heap.size, p + 1, none⟩ (.int .i64 ((s1 : Int) + s3))).cell? ⟨w0.heap.size, p, none⟩ = some (.int .i64 (s2 : Int)) := (World.cell?_setCell_other _ _ _ _ (by simp)).trans d0
                clear d1 d0 c1 c0 HST1
                go_wp2_with fail
                go_region
                go_wp2
                go_roundw
                case rel => exact ⟨p + 1, by omega, by omega, by go_num, HST.out, ((HBZ.out.setCell (p := ⟨w0.heap.size, p + 1, none⟩) (Nat.le_refl _) _).setCell (p := ⟨w0.heap.size, p + 1, none⟩) (Nat.le_refl _) _).drew.drew⟩
                case measure => simp [intOf]; omega
              · have i5 : ¬ (y : Int) + 1 < (p : Int) + 1 := by omega
                have HV : Hid ((s0 : Int) = s1 + s3) := Lib.hid (by have := HSV.out; have := HZ.out (by omega); omega)
                have HS3 : Hid (fr (schF y (p + 1 + 1)) (n + 1) = (fr (schF y (p + 1)) (n + 1)).set (p + 1) ((s1 : Int) + s3)) := Lib.hid (by rw [← HV.out, ← HS0.out, ← schF_set y p n 0, List.set_set])
                go_wp2_with fail
                go_roundw
                case rel => exact ⟨p + 1, by omega, by omega, by go_num, by rw [HS3.out]; exact HST1.out, (HBZ.out.setCell (p := ⟨w0.heap.size, p + 1, none⟩) (Nat.le_refl _) _).drew⟩
                case measure => simp [intOf]; omega
            · obtain rfl : p = n := by omega
              rw [schF_all] at hrow
              have HR3 := Lib.hid (hrow.mono hsz0)
              have HB3 := Lib.hid (HB.out.trans (hb.mono hsz0))
              clear hrow hb HR2 HB2
              have i1 : ¬ (p : Int) + 1 ≤ (p : Int) := by omega
              go_wp2_with fail
              go_roundw
              case rel => first
                | exact ⟨y + 1, w0.heap.size, by omega, by go_num, rfl, HR3.out, HB3.out⟩
                | exact ⟨y + 1, by omega, by go_num, HR3.out, HB3.out⟩
                | trace_state
              case measure => simp [intOf]; omega
        · obtain rfl : y = n := by omega
          have hc0 := hrow.cell (j := y) (by rw [fr_length]; omega)
          rw [fr_get _ _ _ (by omega)] at hc0
          have i1 : ¬ (y : Int) + 1 ≤ (y : Int) := by omega
          have i2 : (y : Int) < (y : Int) + 1 := by omega
          clear hrow
          go_wp2
          go_ret2
          exact ⟨rfl, hb⟩
end Go.Proofs.Ytnmmgpmhpjjehaa
