/- CountByHeight, SumOfHighest: the model. -/
import Derived.Test.YtnlmjeakdjmohaaP8Math
import Derived.Test.YtnlmjeakdjmohaaOwn
import Derived.Test.YtnlmjeakdjmohaaPrS
namespace Go.Proofs.Ytnlmjeakdjmohaa
open Go.RowKit
set_option linter.unusedVariables false
set_option maxRecDepth 100000 in
set_option maxHeartbeats 4000000 in
theorem reWithin_ret (m h : Nat) (w : World) (hm : m ≤ 15) (hh : h ≤ 15) :
    Calls Try.prog 131 #[.int .i64 (m : Int), .int .i64 (h : Int)] w (Ret w (.int .i64 (hgA m h))) := by
  obtain ⟨i0, hi0, hz0, hz1, hz2⟩ := info_parts intInfo
  go_enter Try.func131, Try.ntmps131
  go_wp2_with (refine wpList_make_full _ rfl (.tmp 11) (.tmp 11) 44 rfl w.heap.size 3 i0 (.int .i64 0) 1 Try.underlying44 hi0 hz0 hz1 .i64 .i64 _ _ (h + 1) rfl rfl (by omega) (by omega) (by rw [hz2]; omega) (by unfold maxLen; omega) (Nat.le_refl _) ?_; intro w1 hown1 hgrow1; have hrow1 : IRow w1 w.heap.size (.slice (some ⟨w.heap.size, 0, none⟩) (h + 1) (h + 1)) (List.replicate (h + 1) 0) := IRow.of_own hown1 (by simp) (by rw [madeOne _ rfl]; simp); have hb1 : Below w.heap.size w w1 := (Below.refl _ _).grown hgrow1 (Nat.le_refl _) (by simp); have HST := Lib.hid (hrow1.set 0 1).1; have hc1 := hrow1.cell (j := 0) (by simp); have hf1 := hrow1.free 0; clear hown1 hgrow1)
  have HR0 : Hid (IRow (w1.setCell ⟨w.heap.size, 0, none⟩ (.int .i64 1)) w.heap.size (.slice (some ⟨w.heap.size, 0, none⟩) (h + 1) (h + 1)) (fr (wyF h 0) (h + 1))) := Lib.hid (by rw [← wyF_first h h]; exact HST.out)
  have HB0 := Lib.hid (hb1.setCell (p := ⟨w.heap.size, 0, none⟩) (Nat.le_refl _) (.int .i64 1))
  clear hrow1 hb1 hc1 hf1 HST
  go_loopw [5, 6] (fun v i wq => ∃ (k g : Nat), k ≤ 2 * m ∧ i = .int .i64 (k : Int) ∧ v = .slice (some ⟨g, 0, none⟩) (h + 1) (h + 1) ∧ IRow wq w.heap.size (.slice (some ⟨g, 0, none⟩) (h + 1) (h + 1)) (fr (wyF h k) (h + 1)) ∧ Below w.heap.size w wq) (fun _ i _ => 2 * m - (intOf i).toNat)
  case atStart => exact ⟨0, w.heap.size, Nat.zero_le _, rfl, rfl, HR0.out, HB0.out⟩
  case round =>
    obtain ⟨k, g, hk, rfl, rfl, hrow, hb⟩ := hrel
    by_cases hlk : k < 2 * m
    · obtain ⟨w0, rfl⟩ : ∃ w0, w0 = wr := ⟨_, rfl⟩
      have hgl := (hrow.blk g rfl).2
      have hsz0 := hb.size
      have ik : (k : Int) < 2 * (m : Int) := by omega
      go_wp2_with (refine wpList_make_full _ rfl (.tmp 22) (.tmp 22) 44 rfl w0.heap.size 3 i0 (.int .i64 0) 1 Try.underlying44 hi0 hz0 hz1 .i64 .i64 _ _ (h + 1) rfl rfl (by omega) (by omega) (by rw [hz2]; omega) (by unfold maxLen; omega) (Nat.le_refl _) ?_; intro w2 hown1 hgrow1)
      have hrow2 : IRow w2 w0.heap.size (.slice (some ⟨w0.heap.size, 0, none⟩) (h + 1) (h + 1)) (fr (wyP h k 0) (h + 1)) :=
        IRow.of_own hown1 (by simp [fr_length]) (by rw [← wyP_zero h k, madeOne _ rfl]; simp)
      have hb2 : Below w0.heap.size w0 w2 := (Below.refl _ _).grown hgrow1 (Nat.le_refl _) (by simp)
      clear hown1 hgrow1
      have HR2 := Lib.hid hrow2
      have HB2 := Lib.hid hb2
      have HOLD := Lib.hid hrow
      have HB := Lib.hid hb
      clear hrow2 hb2 hrow hb HR0 HB0
      go_loopw [26] (fun i wz => ∃ p : Nat, p ≤ h + 1 ∧ i = .int .i64 (p : Int) ∧ IRow wz w0.heap.size (.slice (some ⟨w0.heap.size, 0, none⟩) (h + 1) (h + 1)) (fr (wyP h k p) (h + 1)) ∧ Below w0.heap.size w0 wz) (fun i _ => h + 1 - (intOf i).toNat)
      case atStart => exact ⟨0, Nat.zero_le _, rfl, HR2.out, HB2.out⟩
      case round =>
        obtain ⟨p, hp, rfl, hrow, hb⟩ := hrel
        clear HR2 HB2
        by_cases hlp : p < h + 1
        · have hold := HOLD.out.below hb
          have c0 := hold.cell (j := p) (by rw [fr_length]; omega)
          rw [fr_get _ _ _ (by omega)] at c0
          have hcs := wyF_bd (show k ≤ 30 by omega) h p
          have hgne : g ≠ w0.heap.size := by omega
          have i1 : (p : Int) < (h : Int) + 1 := by omega
          clear hold
          cases p with
          | zero =>
            by_cases hz : h = 0
            · subst hz
              have hst := hrow
              rw [show fr (wyP 0 k 0) (0 + 1) = fr (wyP 0 k 1) (0 + 1) from wyP_one k] at hst
              have HST := Lib.hid hst
              have HBZ := Lib.hid hb
              clear hrow hb hst
              generalize wyF 0 k 0 = c at *
              simp only [Nat.zero_add] at *
              go_wp2_with fail
              go_roundw
              case rel => exact ⟨1, by omega, by go_num, HST.out, HBZ.out⟩
              case measure => first | (simp [intOf]; done) | (simp [intOf]; omega)
            · have d2 := hrow.cell (j := 1) (by rw [fr_length]; omega)
              rw [fr_get _ _ _ (by omega)] at d2
              have f2 := hrow.free 1
              have q1 := wyP_bd (show k ≤ 30 by omega) h 0 1
              have hst := (hrow.set 1 (wyP h k 1 1)).1
              rw [wyP_set0, wyP_up h k 0] at hst
              have HST := Lib.hid hst
              have HBZ := Lib.hid hb
              have i2 : (0 : Int) < (h : Int) := by omega
              have i3 : (1 : Int) < (h : Int) + 1 := by omega
              clear hrow hb hst
              simp only [Nat.zero_add] at *
              generalize wyP h k 0 1 = e2 at *
              generalize wyF h k 0 = c at *
              go_wp2_with fail
              go_roundw
              case rel => exact ⟨1, by omega, by go_num, HST.out, HBZ.out.setCell (p := ⟨w0.heap.size, 1, none⟩) (Nat.le_refl _) _⟩
              case measure => first | (simp [intOf]; done) | (simp [intOf]; omega)
          | succ p =>
            have d0 := hrow.cell (j := p) (by rw [fr_length]; omega)
            rw [fr_get _ _ _ (by omega)] at d0
            have f0 := hrow.free p
            have q3 := wyP_bd (show k ≤ 30 by omega) h (p + 1) p
            have i5 : (p : Int) < (h : Int) + 1 := by omega
            have i6 : (0 : Int) < (p : Int) + 1 := by omega
            by_cases hlast : p + 1 = h
            · obtain rfl : h = p + 1 := hlast.symm
              have hst := (hrow.set p (wyP (p + 1) k (p + 1 + 1) p)).1
              rw [wyP_end, wyP_down] at hst
              have HST := Lib.hid hst
              have HBZ := Lib.hid hb
              clear hrow hb hst
              generalize wyP (p + 1) k (p + 1) p = e0 at *
              generalize wyF (p + 1) k (p + 1) = c at *
              have i7 : ¬ (p : Int) + 1 < (p : Int) + 1 := by omega
              go_wp2_with fail
              go_roundw
              case rel => exact ⟨p + 1 + 1, by omega, by go_num, HST.out, HBZ.out.setCell (p := ⟨w0.heap.size, p, none⟩) (Nat.le_refl _) _⟩
              case measure => first | (simp [intOf]; done) | (simp [intOf]; omega)
            · have d2 := hrow.cell (j := p + 1 + 1) (by rw [fr_length]; omega)
              rw [fr_get _ _ _ (by omega)] at d2
              have f2 := hrow.free (p + 1 + 1)
              have q1 := wyP_bd (show k ≤ 30 by omega) h (p + 1) (p + 1 + 1)
              have hst := ((hrow.set p (wyP h k (p + 1 + 1) p)).1.set (p + 1 + 1) (wyP h k (p + 1 + 1) (p + 1 + 1))).1
              rw [wyP_set, wyP_up h k (p + 1), wyP_down] at hst
              have HST := Lib.hid hst
              have HBZ := Lib.hid hb
              clear hrow hb hst
              generalize wyP h k (p + 1) p = e0 at *
              generalize wyP h k (p + 1) (p + 1 + 1) = e2 at *
              generalize wyF h k (p + 1) = c at *
              have k1 : (wr.setCell ⟨w0.heap.size, p, none⟩ (.int .i64 (e0 + c))).cell? ⟨w0.heap.size, p + 1 + 1, none⟩ = some (.int .i64 e2) := (World.cell?_setCell_other _ _ _ _ (by simp)).trans d2
              have k2 : (wr.setCell ⟨w0.heap.size, p, none⟩ (.int .i64 (e0 + c))).frozen? ⟨w0.heap.size, p + 1 + 1, none⟩ = false := by rw [World.frozen?_setCell]; exact f2
              have i7 : (p : Int) + 1 < (h : Int) := by omega
              have i8 : (p : Int) + 1 + 1 < (h : Int) + 1 := by omega
              clear d2 f2
              go_wp2_with fail
              go_roundw
              case rel => exact ⟨p + 1 + 1, by omega, by go_num, HST.out, (HBZ.out.setCell (p := ⟨w0.heap.size, p, none⟩) (Nat.le_refl _) _).setCell (p := ⟨w0.heap.size, p + 1 + 1, none⟩) (Nat.le_refl _) _⟩
              case measure => first | (simp [intOf]; done) | (simp [intOf]; omega)
        · obtain rfl : p = h + 1 := by omega
          have e : fr (wyP h k (h + 1)) (h + 1) = fr (wyF h (k + 1)) (h + 1) := frw_congr fun j hj => wyP_all hj
          rw [e] at hrow
          have HR3 := Lib.hid (hrow.mono hsz0)
          have HB3 := Lib.hid (HB.out.trans (hb.mono hsz0))
          clear hrow hb e
          go_wp2_with fail
          go_roundw
          case rel => exact ⟨k + 1, w0.heap.size, by omega, by go_num, rfl, HR3.out, HB3.out⟩
          case measure => first | (simp [intOf]; done) | (simp [intOf]; omega)
    · obtain rfl : k = 2 * m := by omega
      have hc0 := hrow.cell (j := 0) (by rw [fr_length]; omega)
      rw [fr_get _ _ _ (by omega)] at hc0
      have e : wyF h (2 * m) 0 = hgA m h := rfl
      rw [e] at hc0
      clear hrow e
      generalize hgA m h = z at *
      go_wp2
      go_ret
      exact ⟨rfl, hb⟩
def hgL (m j : Nat) : Int := if j = 0 then 0 else hgA m (j - 1)
theorem hgL_succ (m j : Nat) : hgL m (j + 1) = hgA m j := by unfold hgL; rw [if_neg (by omega)]; rfl
theorem hgL_bd {m : Nat} (hm : m ≤ 15) (j : Nat) : 0 ≤ hgL m j ∧ hgL m j ≤ 1073741824 := by
  unfold hgL
  split
  · omega
  · exact hgA_bd hm _
/-- the sum of the greatest heights, of those below j -/
def hiS (m : Nat) : Nat → Int
  | 0 => 0
  | j + 1 => hiS m j + (j : Int) * hgF m j
theorem hi_mul {m : Nat} (hm : m ≤ 15) {j : Nat} (hj : j ≤ 15) : -16106127360 ≤ (j : Int) * hgF m j ∧ (j : Int) * hgF m j ≤ 16106127360 := by
  have h1 := hgF_bd hm j
  have a1 : (j : Int) * hgF m j ≤ (j : Int) * 1073741824 := Int.mul_le_mul_of_nonneg_left h1.2 (by omega)
  have a2 : (j : Int) * -1073741824 ≤ (j : Int) * hgF m j := Int.mul_le_mul_of_nonneg_left h1.1 (by omega)
  omega
theorem hiS_bd {m : Nat} (hm : m ≤ 15) : ∀ j : Nat, j ≤ 16 → -(16106127360 * (j : Int)) ≤ hiS m j ∧ hiS m j ≤ 16106127360 * (j : Int)
  | 0, _ => by simp [hiS]
  | j + 1, h => by
    have h1 := hiS_bd hm j (by omega)
    have h2 := hi_mul hm (show j ≤ 15 by omega)
    rw [hiS]
    omega
def hiF (m : Nat) : Int := hiS m (m + 1)
set_option maxRecDepth 100000 in
set_option maxHeartbeats 800000 in
theorem reHeights_any (m : Nat) (hm : m ≤ 15) (w : World) : Calls Try.prog 89 #[.int .i64 (m : Int)] w (IntsNew w (fr (hgF m) (m + 1))) := by
  obtain ⟨i0, hi0, hz0, hz1, hz2⟩ := info_parts intInfo
  go_enter Try.func89, Try.ntmps89
  go_wp2_with (refine wpList_make_full _ rfl (.tmp 8) (.tmp 8) 44 rfl w.heap.size 3 i0 (.int .i64 0) 1 Try.underlying44 hi0 hz0 hz1 .i64 .i64 _ _ (m + 1) rfl rfl (by omega) (by omega) (by rw [hz2]; omega) (by unfold maxLen; omega) (Nat.le_refl _) ?_; intro w2 hown1 hgrow1)
  have hrow1 : IRow w2 w.heap.size (.slice (some ⟨w.heap.size, 0, none⟩) (m + 1) (m + 1)) (fil (hgF m) (m + 1) 0) :=
    IRow.of_own hown1 (by simp [fil_length]) (by rw [fil_zero, madeOne _ rfl]; simp)
  have hb2 : Below w.heap.size w w2 := (Below.refl _ _).grown hgrow1 (Nat.le_refl _) (by simp)
  clear hown1 hgrow1
  go_loopw [4, 12] (fun l i wr => ∃ j : Nat, j ≤ m + 1 ∧ i = .int .i64 (j : Int) ∧ l = .int .i64 (hgL m j) ∧ IRow wr w.heap.size (.slice (some ⟨w.heap.size, 0, none⟩) (m + 1) (m + 1)) (fil (hgF m) (m + 1) j) ∧ Below w.heap.size w wr) (fun _ i _ => m + 1 - (intOf i).toNat)
  case atStart => exact ⟨0, by omega, rfl, rfl, hrow1, hb2⟩
  case round =>
    obtain ⟨j, hj, rfl, rfl, hrow, hb⟩ := hrel
    by_cases hlt : j < m + 1
    · have hsz := hb.size
      have hgl := (hrow.blk _ rfl).2
      have i1 : (j : Int) < (m : Int) + 1 := by omega
      have i2 : 0 ≤ (j : Int) := by omega
      have HS : Hid (hgF m j = hgA m j - hgL m j) := Lib.hid rfl
      have HL : Hid (hgL m (j + 1) = hgA m j) := Lib.hid (hgL_succ m j)
      have m1 := hgA_bd hm j
      have m2 := hgL_bd hm j
      have H1 : Hid (∀ w, Calls Try.prog 131 #[.int .i64 (m : Int), .int .i64 (j : Int)] w (Ret w (.int .i64 (hgA m j)))) := Lib.hid fun w => reWithin_ret m j w hm (by omega)
      generalize hgL m j = l0 at *
      generalize hgA m j = a0 at *
      have hrr := hrow
      have hacc := hb
      clear hrow hb hrow1 hb2
      go_wp2_with (go_at_call 131; refine (H1.out _).mono ?_; rintro e w4 ⟨rfl, hb4⟩; replace hrr := hrr.below hb4; replace hacc := hacc.trans (hb4.mono hsz); have hf3 := hrr.free j; have hc3 := hrr.cell (j := j) (by rw [fil_length]; omega))
      have hst := (hrr.set j (hgF m j)).1
      rw [fil_set] at hst
      rw [HS.out] at hst
      have HST := Lib.hid hst
      have HACC := Lib.hid (hacc.setCell (p := ⟨w.heap.size, j, none⟩) (Nat.le_refl _) (.int .i64 (a0 - l0)))
      clear hst hacc hrr hf3 hc3
      go_roundw
      case rel => exact ⟨j + 1, by omega, by go_num, by rw [HL.out], HST.out, HACC.out⟩
      case measure => simp [intOf]; omega
    · obtain rfl : j = m + 1 := by omega
      have hr := hrow
      rw [fil_full] at hr
      have HR := Lib.hid hr
      clear hr hrow
      have i1 : ¬ (m : Int) + 1 < (m : Int) + 1 := by omega
      go_wp2_with fail
      go_ret
      exact ⟨_, rfl, HR.out, hb⟩
theorem specByHeight_ret (n : Int) (w : World) : Calls Try.prog 41 #[.int .i64 n] w (IntsRet w (prB n) (prL hgF n)) := by
  have HG := Lib.hid (reGood_any n)
  rcases Bool.eq_false_or_eq_true (prB n) with h | h
  case inr =>
    rw [prL_no _ h, h]
    rw [h] at HG
    go_enter Try.func41, Try.ntmps41
    go_wp2_with (go_at_call 85; refine (HG.out _).mono ?_; rintro e w1 ⟨rfl, rfl⟩)
    go_ret2
    exact ⟨_, rfl, IRow.nil _ _, Below.refl _ _⟩
  obtain ⟨m, rfl, hm⟩ := prB_of h
  have HC := Lib.hid (reHeights_any m hm)
  rw [prL_yes _ h, h]
  rw [h] at HG
  go_enter Try.func41, Try.ntmps41
  go_wp2_with (first | (go_at_call 85; refine (HG.out _).mono ?_; rintro e w1 ⟨rfl, rfl⟩) | (go_at_call 89; refine (HC.out _).mono ?_; rintro e w2 ⟨v, rfl, hr, hb2⟩))
  go_ret2
  exact ⟨_, rfl, hr, hb2⟩
set_option maxHeartbeats 400000 in
theorem specSumHigh_ret (n : Int) (w : World) : Calls Try.prog 53 #[.int .i64 n] w (Ret w (.tuple #[.int .i64 (prZ hiF n), .bool (prB n)])) := by
  have HG := Lib.hid (reGood_any n)
  rcases Bool.eq_false_or_eq_true (prB n) with h | h
  case inr =>
    rw [prZ_no _ h, h]
    rw [h] at HG
    go_enter Try.func53, Try.ntmps53
    go_wp2_with (go_at_call 85; refine (HG.out _).mono ?_; rintro e w1 ⟨rfl, rfl⟩)
    go_ret2
    exact ⟨rfl, Below.refl _ _⟩
  obtain ⟨m, rfl, hm⟩ := prB_of h
  have HC := Lib.hid (reHeights_any m hm)
  rw [prZ_yes _ h, h]
  rw [h] at HG
  clear h
  go_enter Try.func53, Try.ntmps53
  go_wp2_with (first | (go_at_call 85; refine (HG.out _).mono ?_; rintro e w1 ⟨rfl, rfl⟩) | (go_at_call 89; refine (HC.out _).mono ?_; rintro e w2 ⟨v, rfl, hr, hb2⟩; obtain ⟨g, c, rfl, hgB, hgl⟩ := hr.form' (fr_length _ _) (by omega)))
  go_loop [4, 13] (fun u i => ∃ k : Nat, k ≤ m + 1 ∧ i = .int .i64 (k : Int) ∧ u = .int .i64 (hiS m k)) (fun _ i => m + 1 - (intOf i).toNat)
  case atStart => exact ⟨0, Nat.zero_le _, rfl, rfl⟩
  case round =>
    obtain ⟨k, hk, rfl, rfl⟩ := hrel
    by_cases hlt : k < m + 1
    · have hc := hr.cell (j := k) (by rw [fr_length]; omega)
      rw [fr_get _ _ _ hlt] at hc
      have h1 := hiS_bd hm k (by omega)
      have h2 := hi_mul hm (show k ≤ 15 by omega)
      have HE : Hid (hiS m (k + 1) = hiS m k + (k : Int) * hgF m k) := Lib.hid rfl
      have i1 : (k : Int) < (m : Int) + 1 := by omega
      generalize hiS m k = x at *
      generalize hgF m k = y at *
      go_wp2
      go_round
      case rel => exact ⟨k + 1, by omega, by go_num, by rw [HE.out]⟩
      case measure => simp [intOf]; omega
    · obtain rfl : k = m + 1 := by omega
      have HE : Hid (hiF m = hiS m (m + 1)) := Lib.hid rfl
      clear hr
      generalize hiS m (m + 1) = x at *
      go_wp2
      go_ret2
      exact ⟨ret_ib HE.out.symm rfl, hb2⟩
end Go.Proofs.Ytnlmjeakdjmohaa
