/- The model's HeldAfter. -/
import Derived.Test.YtfimcadnlhohlaaRaS
import Derived.Test.YtfimcadnlhohlaaHwS
import Derived.Test.YtfimcadnlhohlaaQOwn
import Derived.Test.YtfimcadnlhohlaaHaMath
import Derived.Test.YtfimcadnlhohlaaInList
namespace Go.Proofs.Ytfimcadnlhohlaa
open Go.RowKit
set_option linter.unusedVariables false
def haN (i g n d k : Int) : Nat := if timB i g n d k = true then g.toNat + 1 else 0
def haX (i g n d k : Int) : List Int := if timB i g n d k = true then fr (hcv (hw i.toNat g.toNat n d k.toNat) (d ^ k.toNat)) ((g.toNat + 1) * 2) else []
theorem haN_le (i g n d k : Int) : haN i g n d k ≤ 1048576 := by
  unfold haN
  split
  · rename_i h
    have := askB_of (timB_of h).1
    omega
  · omega
set_option maxRecDepth 100000 in
set_option maxHeartbeats 4000000 in
theorem specHeld_ret (i g n d k : Int) (w : World) : Calls Try.prog 38 #[.int .i64 i, .int .i64 g, .agg #[.int .i64 n, .int .i64 d], .int .i64 k] w (QsRet w (timB i g n d k) (haN i g n d k) (haX i g n d k)) := by
  have HA : Hid (∀ w, Calls Try.prog 67 #[.int .i64 i, .int .i64 g, .agg #[.int .i64 n, .int .i64 d], .int .i64 k] w (Ret w (.bool (timB i g n d k)))) := Lib.hid fun w => ruTimes_any i g n d k w
  have HX := Lib.hid (RBox.start w n d)
  have c0 := HX.out.1
  have c1 := HX.out.2.1
  rcases Bool.eq_false_or_eq_true (timB i g n d k) with ha | ha
  · obtain ⟨h1, h2, h3⟩ := timB_of ha
    obtain ⟨bg, bi, bd, bn⟩ := askB_of h1
    have e1 : haN i g n d k = g.toNat + 1 := by unfold haN; rw [if_pos ha]
    have e2 : haX i g n d k = fr (hcv (hw i.toNat g.toNat n d k.toNat) (d ^ k.toNat)) ((g.toNat + 1) * 2) := by unfold haX; rw [if_pos ha]
    rw [e1, e2]
    rw [ha] at HA ⊢
    clear ha h1 e1 e2
    obtain ⟨I, rfl⟩ := Int.eq_ofNat_of_zero_le bi.1
    obtain ⟨G, rfl⟩ := Int.eq_ofNat_of_zero_le (show 0 ≤ g by omega)
    obtain ⟨K, rfl⟩ := Int.eq_ofNat_of_zero_le h2
    simp only [Int.toNat_natCast]
    have HH : Hid (∀ w, Calls Try.prog 68 #[.int .i64 (I : Int), .int .i64 (G : Int), .agg #[.int .i64 n, .int .i64 d], .int .i64 (K : Int)] w (IntsNew w (fr (hw I G n d K) (G + 1)))) := Lib.hid fun w => ruHeld_any I G K n d w (by omega) (by omega) (by omega) (by omega) (by omega) (by omega)
    have HP : Hid (∀ w, Calls Try.prog 65 #[.int .i64 d, .int .i64 (K : Int)] w fun e w' => e = .returned (.int .i64 (d ^ K)) ∧ w = w') := Lib.hid fun w => ruPower_any d K w (by omega) (by omega)
    have p2 := pow6' (x := d) (k := K) (by omega) (by omega)
    have p3 := pow_pos1 (x := d) (by omega) K
    have HWB : Hid (∀ j, j ≤ G → 0 ≤ hw I G n d K j ∧ hw I G n d K j ≤ 101559956668416) := Lib.hid fun j hj => hw_bd (by omega) (by omega) (by omega) (by omega) (by omega) hj
    have HCL : Hid (∀ (W : World) (B gg cc : Nat), IRow W B (.slice (some ⟨gg, 0, none⟩) (G + 1) cc) (fr (hw I G n d K) (G + 1)) → ∀ X, Below W.heap.size W X → ∀ j, j < G + 1 → X.cell? ⟨gg, j, none⟩ = some (.int .i64 (hw I G n d K j))) := Lib.hid fun W B gg cc hr X hX j hj => by
      have := (hr.below hX).cell (j := j) (by rw [fr_length]; omega)
      rwa [fr_get _ _ _ (by omega)] at this
    generalize hw I G n d K = F at *
    generalize d ^ K = b at *
    have HSN := Lib.hid (hcv_snoc F b)
    have HRA : Hid (∀ j, j ≤ G → ∀ w, Calls Try.prog 62 #[.int .i64 (F j), .int .i64 b] w (Ret w (.agg #[.int .i64 (numZ (F j) b), .int .i64 (denZ (F j) b)]))) := Lib.hid fun j hj w => ruRatioZ_any _ _ w (by have := HWB.out j hj; omega) (by omega)
    go_enter Try.func38, Try.ntmps38
    go_wp2_with (first | (go_at_call 67; refine (HA.out _).mono ?_; rintro e wa ⟨rfl, hba⟩; have hx := HX.out.kept hba; have r0 := hx.1; have r1 := hx.2.1; have HX2 := Lib.hid hx; clear hx hba) | (go_at_call 68; refine (HH.out _).mono ?_; rintro e w3 ⟨v3, rfl, hr3, hb3⟩; obtain ⟨g3, c3, rfl, hg3⟩ := hr3.form' (fr_length _ _) (by omega); have HC3 := Lib.hid (HCL.out _ _ _ _ hr3); have HX3 := Lib.hid (HX2.out.kept hb3); clear hr3 hb3 hg3 r0 r1))
    go_loopw [10, 25] (fun o q wq => ∃ m : Nat, m ≤ G + 1 ∧ q = .int .i64 (m : Int) ∧ QRow wq w3.heap.size o m (fr (hcv F b) (m * 2)) ∧ Below w3.heap.size w3 wq) (fun _ q _ => G + 1 - (intOf q).toNat)
    case atStart => exact ⟨0, Nat.zero_le _, rfl, by simpa [fr] using QRow.nil w3 w3.heap.size, Below.refl _ _⟩
    case round =>
      obtain ⟨m, hm, rfl, hrow, hb⟩ := hrel
      by_cases hlt : m < G + 1
      · obtain ⟨A1, c4, rfl⟩ := hrow.shape
        have i1 : (m : Int) < (G : Int) + 1 := by omega
        have e0 := HC3.out _ hb m hlt
        have hbx := HX3.out.kept hb
        have b0 := hbx.1
        have b1 := hbx.2.1
        have HR : Hid (∀ w, Calls Try.prog 62 #[.int .i64 (F m), .int .i64 b] w (Ret w (.agg #[.int .i64 (numZ (F m) b), .int .i64 (denZ (F m) b)]))) := Lib.hid (HRA.out m (by omega))
        have HS := Lib.hid (HSN.out m)
        have HROW := Lib.hid hrow
        have HBK := Lib.hid hrow.blk
        have HB := Lib.hid hb
        have hwb := HWB.out m (by omega)
        clear hrow hb hbx
        generalize F m = f at *
        generalize numZ f b = x at *
        generalize denZ f b = y at *
        go_wp2_with (first | (go_at_call 65; refine (HP.out _).mono ?_; rintro e w' ⟨rfl, rfl⟩) | (go_at_call 62; refine (HR.out _).mono ?_; rintro e wz ⟨rfl, hbz⟩; have hrz := HROW.out.below hbz; have hbb := HB.out.trans (hbz.mono HB.out.size); clear e0 b0 b1) | (refine wpList_pushQ x y (.tmp 29) (.tmp 36) rfl rfl w3.heap.size _ m _ rfl hrz wz.heap.size rfl rfl (by omega) hbb.size ?_; intro v' w' hr' hg' hat'))
        rw [HS.out] at hr'
        have HR2 := Lib.hid hr'
        have HB2 := Lib.hid (hbb.grown hg' hbb.size (fun q hq => (HBK.out q hq).1))
        obtain ⟨A2, c5, rfl⟩ := hr'.shape
        clear hr' hg' hat' hrz hbb hbz
        go_wp2_with fail
        go_roundw
        case rel => exact ⟨m + 1, by omega, by go_num, HR2.out, HB2.out⟩
        case measure => first | (simp [intOf]; done) | (simp [intOf]; omega)
      · obtain rfl : m = G + 1 := by omega
        obtain ⟨A1, c4, rfl⟩ := hrow.shape
        have HROW := Lib.hid hrow
        have HB := Lib.hid hb
        clear hrow hb
        go_wp2_with fail
        go_ret2
        exact ⟨_, rfl, HROW.out.mono HX3.out.2.2.2.size, HX3.out.2.2.2.trans (HB.out.mono HX3.out.2.2.2.size)⟩
  · have e1 : haN i g n d k = 0 := by unfold haN; rw [ha]; rfl
    have e2 : haX i g n d k = [] := by unfold haX; rw [ha]; rfl
    rw [e1, e2]
    rw [ha] at HA ⊢
    clear e1 e2 ha
    go_enter Try.func38, Try.ntmps38
    go_wp2_with (go_at_call 67; refine (HA.out _).mono ?_; rintro e wa ⟨rfl, hba⟩; have hx := HX.out.kept hba; have r0 := hx.1; have r1 := hx.2.1; have HX2 := Lib.hid hx; clear hx hba)
    go_ret2
    exact ⟨_, rfl, QRow.nil _ _, HX2.out.2.2.2⟩
end Go.Proofs.Ytfimcadnlhohlaa
