/- The program's HeldAfter. -/
import Derived.Test.YtfimcadnlhohlaaChaI
import Derived.Test.YtfimcadnlhohlaaHaS
namespace Go.Proofs.Ytfimcadnlhohlaa
open Go.RowKit
set_option linter.unusedVariables false
set_option maxRecDepth 100000 in
set_option maxHeartbeats 4000000 in
theorem heldI_ret (i g n d k : Int) (w : World) : Calls Try.prog 39 #[.int .i64 i, .int .i64 g, .agg #[.int .i64 n, .int .i64 d], .int .i64 k] w (QsRet w (timB i g n d k) (haN i g n d k) (haX i g n d k)) := by
  have HX := Lib.hid (RBox.start w n d)
  have r0 := HX.out.1
  have r1 := HX.out.2.1
  obtain ⟨i0, hi0, hz0, hz1, hz2⟩ := info_parts ratInfo
  rcases Bool.eq_false_or_eq_true (timB i g n d k) with ht | ht
  · obtain ⟨ha, h2, h3⟩ := timB_of ht
    obtain ⟨bg, bi, bd, bn⟩ := askB_of ha
    have e1 : haN i g n d k = g.toNat + 1 := by unfold haN; rw [if_pos ht]
    have e2 : haX i g n d k = fr (hcv (hw i.toNat g.toNat n d k.toNat) (d ^ k.toNat)) ((g.toNat + 1) * 2) := by unfold haX; rw [if_pos ht]
    rw [e1, e2, ht]
    have HPA : Hid (∀ w, Calls Try.prog 70 #[.int .i64 i, .int .i64 g, .agg #[.int .i64 n, .int .i64 d], .int .i64 k] w (RowTrue w (fr (hw i.toNat g.toNat n d k.toNat) (g.toNat + 1)))) := Lib.hid fun w => partsAfter_yes i g n d k w ht
    clear ht ha e1 e2
    obtain ⟨I, rfl⟩ := Int.eq_ofNat_of_zero_le bi.1
    obtain ⟨G, rfl⟩ := Int.eq_ofNat_of_zero_le (show 0 ≤ g by omega)
    obtain ⟨K, rfl⟩ := Int.eq_ofNat_of_zero_le h2
    simp only [Int.toNat_natCast] at HPA ⊢
    have hF : ∀ j, 0 ≤ hw I G n d K j := hw_nonneg I G (n := n) (d := d) (by omega) (by omega) K
    have hsum := hw_sum (i := I) (g := G) (by omega) n d K
    have hp6 := pow6' (x := d) (by omega) (k := K) (by omega)
    have hp1 := pow_pos1 (x := d) (by omega) K
    have hsb : sumTo (hw I G n d K) (G + 1) ≤ 9000000000000000000 := by omega
    have HSUM : Hid (∀ (X : World) (B gg cc : Nat), IRow X B (.slice (some ⟨gg, 0, none⟩) (G + 1) cc) (fr (hw I G n d K) (G + 1)) → (Calls Try.prog 61 #[.slice (some ⟨gg, 0, none⟩) (G + 1) cc] X fun e w' => e = .returned (.int .i64 (d ^ K)) ∧ X = w')) := Lib.hid fun X B gg cc hr => by
      have := sumSeg (a := 0) (k := G + 1) (by omega) (by omega) hF hsb hr
      rw [show sumTo (fun j => hw I G n d K (0 + j)) (G + 1) = d ^ K by rw [← hsum]; congr 1; funext j; rw [Nat.zero_add]] at this
      exact this
    have HCL : Hid (∀ (W : World) (B gg cc : Nat), IRow W B (.slice (some ⟨gg, 0, none⟩) (G + 1) cc) (fr (hw I G n d K) (G + 1)) → ∀ X, Below W.heap.size W X → ∀ j, j < G + 1 → X.cell? ⟨gg, j, none⟩ = some (.int .i64 (hw I G n d K j))) := Lib.hid fun W B gg cc hr X hX j hj => by
      have := (hr.below hX).cell (j := j) (by rw [fr_length]; omega)
      rwa [fr_get _ _ _ (by omega)] at this
    have HWB : Hid (∀ j, j ≤ G → 0 ≤ hw I G n d K j ∧ hw I G n d K j ≤ 101559956668416) := Lib.hid fun j hj => hw_bd (by omega) (by omega) (by omega) (by omega) (by omega) hj
    clear hF hsum hsb
    generalize hw I G n d K = F at *
    generalize d ^ K = b at *
    have HSN := Lib.hid (hcP_set F b (G + 1))
    have HLE := Lib.hid (hcP_len F b (G + 1))
    have HRA : Hid (∀ j, j ≤ G → ∀ w, Calls Try.prog 60 #[.int .i64 (F j), .int .i64 b] w (Ret w (.agg #[.int .i64 (numZ (F j) b), .int .i64 (denZ (F j) b)]))) := Lib.hid fun j hj w => lowZ_any _ _ w (by have := HWB.out j hj; omega) (by omega)
    go_enter Try.func39, Try.ntmps39
    go_wp2_with (first | (go_at_call 70; refine (HPA.out _).mono ?_; rintro e w3 ⟨v3, rfl, hr3, hb3⟩; have hx := HX.out.kept hb3; obtain ⟨g3, c3, rfl, hg3, hl3⟩ := hr3.form' (fr_length _ _) (by omega); have S2 := Lib.hid (HSUM.out _ _ _ _ hr3); have HC3 := Lib.hid (HCL.out _ _ _ _ hr3); have HX3 := Lib.hid hx; clear hx hb3 hr3 hg3 hl3 r0 r1) | (go_at_call 61; refine S2.out.mono ?_; rintro e w' ⟨rfl, rfl⟩) | (refine wpList_make_full _ rfl (.tmp 29) (.tmp 29) 36 rfl w3.heap.size 25 i0 _ 2 Try.underlying36 hi0 hz0 hz1 .i64 .i64 _ _ (G + 1) rfl rfl (by omega) (by omega) (by rw [hz2]; omega) (by unfold maxLen; omega) (Nat.le_refl _) ?_; intro w1 hown1 hgrow1))
    have HR0 : Hid (QRow w1 w3.heap.size (.slice (some ⟨w3.heap.size, 0, none⟩) (G + 1) (G + 1)) (G + 1) (hcP F b (G + 1) 0)) := Lib.hid ⟨by rw [← hcP_zero, ← made_pairs]; exact hown1, HLE.out 0⟩
    have HB0 : Hid (Below w3.heap.size w3 w1) := Lib.hid ((Below.refl _ _).grown hgrow1 (Nat.le_refl _) (by simp))
    clear hown1 hgrow1
    go_loopw [33] (fun q wq => ∃ m : Nat, m ≤ G + 1 ∧ q = .int .i64 (m : Int) ∧ QRow wq w3.heap.size (.slice (some ⟨w3.heap.size, 0, none⟩) (G + 1) (G + 1)) (G + 1) (hcP F b (G + 1) m) ∧ Below w3.heap.size w3 wq) (fun q _ => G + 1 - (intOf q).toNat)
    case atStart => exact ⟨0, Nat.zero_le _, rfl, HR0.out, HB0.out⟩
    case round =>
      obtain ⟨m, hm, rfl, hrow, hb⟩ := hrel
      clear HR0 HB0
      by_cases hlt : m < G + 1
      · have i1 : (m : Int) < (G : Int) + 1 := by omega
        have e0 := HC3.out _ hb m hlt
        have HR : Hid (∀ w, Calls Try.prog 60 #[.int .i64 (F m), .int .i64 b] w (Ret w (.agg #[.int .i64 (numZ (F m) b), .int .i64 (denZ (F m) b)]))) := Lib.hid (HRA.out m (by omega))
        have HS := Lib.hid (HSN.out m)
        have HROW := Lib.hid hrow
        have HB := Lib.hid hb
        clear hrow hb
        generalize F m = f at *
        generalize numZ f b = x at *
        generalize denZ f b = y at *
        go_wp2_with (go_at_call 60; refine (HR.out _).mono ?_; rintro e wz ⟨rfl, hbz⟩; have hrz := HROW.out.below hbz; have s0 := hrz.cell (j := m * 2) (by omega); have s1 := hrz.cell (j := m * 2 + 1) (by omega); have s2 := hrz.free (m * 2); have s3 := hrz.free (m * 2 + 1); have HRZ := Lib.hid hrz; have HBB := Lib.hid (HB.out.trans (hbz.mono HB.out.size)); clear e0 hrz hbz)
        have HST := Lib.hid ((HRZ.out.set (m * 2) x).1.set (m * 2 + 1) y).1
        rw [HS.out] at HST
        have HB2 : Hid (Below w3.heap.size w3 ((wz.setCell ⟨w3.heap.size, m * 2, none⟩ (.int .i64 x)).setCell ⟨w3.heap.size, m * 2 + 1, none⟩ (.int .i64 y))) := Lib.hid ((HBB.out.setCell (p := ⟨w3.heap.size, m * 2, none⟩) (Nat.le_refl _) _).setCell (p := ⟨w3.heap.size, m * 2 + 1, none⟩) (Nat.le_refl _) _)
        go_roundw
        case rel => exact ⟨m + 1, by omega, by go_num, HST.out, HB2.out⟩
        case measure => first | (simp [intOf]; done) | (simp [intOf]; omega)
      · obtain rfl : m = G + 1 := by omega
        rw [hcP_end] at hrow
        have HROW := Lib.hid hrow
        have HB := Lib.hid hb
        clear hrow hb
        go_wp2_with fail
        go_ret2
        exact ⟨_, rfl, HROW.out.mono HX3.out.2.2.2.size, HX3.out.2.2.2.trans (HB.out.mono HX3.out.2.2.2.size)⟩
  · have e1 : haN i g n d k = 0 := by unfold haN; rw [ht]; rfl
    have e2 : haX i g n d k = [] := by unfold haX; rw [ht]; rfl
    have HPA : Hid (∀ w, Calls Try.prog 70 #[.int .i64 i, .int .i64 g, .agg #[.int .i64 n, .int .i64 d], .int .i64 k] w (Ret w (.tuple #[.slice none 0 0, .bool false]))) := Lib.hid fun w => partsAfter_no i g n d k w ht
    rw [e1, e2, ht]
    clear e1 e2 ht
    go_enter Try.func39, Try.ntmps39
    go_wp2_with (go_at_call 70; refine (HPA.out _).mono ?_; rintro e w3 ⟨rfl, hb3⟩; have HX3 := Lib.hid (HX.out.kept hb3); clear hb3 r0 r1)
    go_ret2
    exact ⟨_, rfl, QRow.nil _ _, HX3.out.2.2.2⟩
end Go.Proofs.Ytfimcadnlhohlaa
