/- The model's StillPlaying. -/
import Derived.Test.YtfimcadnlhohlaaRaS
import Derived.Test.YtfimcadnlhohlaaHwS
import Derived.Test.YtfimcadnlhohlaaInList
import Derived.Outline
namespace Go.Proofs.Ytfimcadnlhohlaa
open Go.RowKit
set_option linter.unusedVariables false
theorem sumTo_shift (F : Nat → Int) : ∀ m, sumTo (fun j => F (j + 1)) m + F 0 = sumTo F (m + 1)
  | 0 => by simp [sumTo]
  | m + 1 => by
    have := sumTo_shift F m
    show (sumTo (fun j => F (j + 1)) m + F (m + 1)) + F 0 = sumTo F (m + 1) + F (m + 1)
    omega
/-- the sum over those who still play -/
def spN (i g : Nat) (n d : Int) (k m : Nat) : Int := sumTo (fun j => hw i g n d k (j + 1)) m
theorem sp_bd {i g : Nat} (hi : i ≤ g) {n d : Int} (hn : 0 ≤ n) (hd : n ≤ d) (hd6 : d ≤ 6) {k : Nat} (hk : k ≤ 18) {m : Nat} (hm : m ≤ g) : 0 ≤ spN i g n d k m ∧ spN i g n d k m ≤ 101559956668416 := by
  have h0 := hw_nonneg i g hn hd k
  have h1 := sumTo_shift (hw i g n d k) m
  have h2 := sumTo_le (F := hw i g n d k) (m := g + 1) (fun j _ => h0 j) (m + 1) (by omega)
  rw [hw_sum hi] at h2
  have h3 := pow6' (x := d) (by omega) hk
  have h4 := sumTo_nonneg (F := fun j => hw i g n d k (j + 1)) (m := m) fun j _ => h0 (j + 1)
  have h5 := h0 0
  unfold spN
  omega
def stP (i g n d k : Int) : Int := if timB i g n d k = true then numZ (spN i.toNat g.toNat n d k.toNat (g.toNat - 1)) (d ^ k.toNat) else 0
def stQ (i g n d k : Int) : Int := if timB i g n d k = true then denZ (spN i.toNat g.toNat n d k.toNat (g.toNat - 1)) (d ^ k.toNat) else 0
set_option maxRecDepth 100000 in
set_option maxHeartbeats 2000000 in
theorem specStill_ret (i g n d k : Int) (w : World) : Calls Try.prog 36 #[.int .i64 i, .int .i64 g, .agg #[.int .i64 n, .int .i64 d], .int .i64 k] w (Ret w (ratRet (stP i g n d k) (stQ i g n d k) (timB i g n d k))) := by
  have HA : Hid (∀ w, Calls Try.prog 67 #[.int .i64 i, .int .i64 g, .agg #[.int .i64 n, .int .i64 d], .int .i64 k] w (Ret w (.bool (timB i g n d k)))) := Lib.hid fun w => ruTimes_any i g n d k w
  have HX := Lib.hid (RZ.start w n d)
  rcases Bool.eq_false_or_eq_true (timB i g n d k) with ha | ha
  · obtain ⟨h1, h2, h3⟩ := timB_of ha
    obtain ⟨bg, bi, bd, bn⟩ := askB_of h1
    unfold stP stQ
    simp only [if_pos ha]
    rw [ha] at HA ⊢
    clear ha h1
    obtain ⟨I, rfl⟩ := Int.eq_ofNat_of_zero_le bi.1
    obtain ⟨G, rfl⟩ := Int.eq_ofNat_of_zero_le (show 0 ≤ g by omega)
    obtain ⟨K, rfl⟩ := Int.eq_ofNat_of_zero_le h2
    simp only [Int.toNat_natCast]
    have HH : Hid (∀ w, Calls Try.prog 68 #[.int .i64 (I : Int), .int .i64 (G : Int), .agg #[.int .i64 n, .int .i64 d], .int .i64 (K : Int)] w (IntsNew w (fr (hw I G n d K) (G + 1)))) := Lib.hid fun w => ruHeld_any I G K n d w (by omega) (by omega) (by omega) (by omega) (by omega) (by omega)
    have HP : Hid (∀ w, Calls Try.prog 65 #[.int .i64 d, .int .i64 (K : Int)] w fun e w' => e = .returned (.int .i64 (d ^ K)) ∧ w = w') := Lib.hid fun w => ruPower_any d K w (by omega) (by omega)
    have p2 := pow6' (x := d) (k := K) (by omega) (by omega)
    have p3 := pow_pos1 (x := d) (by omega) K
    have HSB : Hid (∀ m, m ≤ G → 0 ≤ spN I G n d K m ∧ spN I G n d K m ≤ 101559956668416) := Lib.hid fun m hm => sp_bd (by omega) (by omega) (by omega) (by omega) (by omega) hm
    have HWB : Hid (∀ j, j ≤ G → 0 ≤ hw I G n d K j ∧ hw I G n d K j ≤ 101559956668416) := Lib.hid fun j hj => hw_bd (by omega) (by omega) (by omega) (by omega) (by omega) hj
    have HSS : Hid (∀ m, spN I G n d K (m + 1) = spN I G n d K m + hw I G n d K (m + 1)) := Lib.hid fun m => rfl
    have HCL : Hid (∀ (W : World) (B gg cc : Nat), IRow W B (.slice (some ⟨gg, 0, none⟩) (G + 1) cc) (fr (hw I G n d K) (G + 1)) → ∀ j, j ≤ G → W.cell? ⟨gg, j, none⟩ = some (.int .i64 (hw I G n d K j))) := Lib.hid fun W B gg cc hr j hj => by
      have := hr.cell (j := j) (by rw [fr_length]; omega)
      rwa [fr_get _ _ _ (by omega)] at this
    have HCAP : Hid (∀ (W : World) (B gg cc : Nat), IRow W B (.slice (some ⟨gg, 0, none⟩) (G + 1) cc) (fr (hw I G n d K) (G + 1)) → G + 1 ≤ cc) := Lib.hid fun W B gg cc hr => ((RInts.of_row hr).room _ _ _ rfl).1
    generalize d ^ K = b at *
    have HS0 : Hid (spN I G n d K 0 = 0) := Lib.hid rfl
    obtain ⟨S, hS⟩ : ∃ S, S = spN I G n d K (G - 1) := ⟨_, rfl⟩
    have hSb := HSB.out (G - 1) (by omega)
    rw [← hS] at hSb ⊢
    have HSE := Lib.hid hS
    clear hS
    have HR : Hid (∀ w, Calls Try.prog 62 #[.int .i64 S, .int .i64 b] w (Ret w (.agg #[.int .i64 (numZ S b), .int .i64 (denZ S b)]))) := Lib.hid fun w => ruRatioZ_any S b w (by omega) (by omega)
    generalize numZ S b = x at *
    generalize denZ S b = y at *
    go_enter Try.func36, Try.ntmps36
    go_wp2_with (go_at_call 67; refine (HA.out _).mono ?_; rintro e wa ⟨rfl, hba⟩; have hx := HX.out.kept hba; have r0 := hx.r.1; have r1 := hx.r.2.1; have y0 := hx.z.c0; have y1 := hx.z.c1; have y2 := hx.z.f0; have y3 := hx.z.f1; have lt1 := hx.z.lt; have HX2 := Lib.hid hx; clear hx hba)
    refine (HH.out _).mono ?_
    rintro e w3 ⟨v3, rfl, hr3, hb3⟩
    obtain ⟨g3, c3, rfl, hg3⟩ := hr3.form' (fr_length _ _) (by omega)
    have HC3 := Lib.hid (HCL.out _ _ _ _ hr3)
    have hcap := HCAP.out _ _ _ _ hr3
    have hx := HX2.out.kept hb3
    have HX3 := Lib.hid hx
    clear hr3 hb3 hx r0 r1 y0 y1 y2 y3
    have i1 : (1 : Int) ≤ (G : Int) := by omega
    have i2 : (G : Int) ≤ (c3 : Int) := by omega
    have i3 : ¬ c3 = 1 := by omega
    go_wp2_with fail
    go_loop [10, 28] (fun s j => ∃ m : Nat, m ≤ G - 1 ∧ j = .int .i64 (m : Int) ∧ s = .int .i64 (spN I G n d K m)) (fun _ j => G - (intOf j).toNat)
    case atStart => exact ⟨0, Nat.zero_le _, rfl, by rw [HS0.out]⟩
    case round =>
      obtain ⟨m, hm, rfl, rfl⟩ := hrel
      by_cases hlt : m < G - 1
      · have e1 := HC3.out (1 + m) (by omega)
        have b1 := HSB.out m (by omega)
        have b2 := HWB.out (1 + m) (by omega)
        have HE : Hid (spN I G n d K (m + 1) = spN I G n d K m + hw I G n d K (1 + m)) := Lib.hid (by rw [HSS.out, Nat.add_comm])
        generalize hw I G n d K (1 + m) = z at *
        generalize spN I G n d K m = s at *
        go_wp2_with fail
        go_round
        case rel => exact ⟨m + 1, by omega, by go_num, by rw [HE.out]⟩
        case measure => simp [intOf]; omega
      · have e3 : m = G - 1 := by omega
        rw [e3, ← HSE.out]
        have HB3 := Lib.hid HX3.out
        have r0 := HX3.out.r.1
        have r1 := HX3.out.r.2.1
        clear e3 hm hlt
        have hnn : ¬ (((G - 1 : Nat)) : Int) < (((G - 1 : Nat)) : Int) := by omega
        go_wp2_with (first | (go_at_call 65; refine (HP.out _).mono ?_; rintro e w' ⟨rfl, rfl⟩) | (go_at_call 62; refine (HR.out _).mono ?_; rintro e wz ⟨rfl, hbz⟩; have hx := HX3.out.kept hbz; have s0 := hx.z.c0; have s1 := hx.z.c1; have s2 := hx.z.f0; have s3 := hx.z.f1; have HX4 := Lib.hid hx; clear hx hbz r0 r1))
        obtain ⟨z0, z1, hzb⟩ := HX4.out.z.done x y
        refine bodyPost_ret (v := ratRet x y true) ?_ rfl ⟨rfl, hzb⟩
        clear hzb
        generalize (wz.setCell ⟨w.heap.size + 1, 0, none⟩ (.int .i64 x)).setCell ⟨w.heap.size + 1, 1, none⟩ (.int .i64 y) = WF at *
        simp [results, Try.f36, go_sem, z0, z1]
  · have e1 : stP i g n d k = 0 := by unfold stP; rw [ha]; rfl
    have e2 : stQ i g n d k = 0 := by unfold stQ; rw [ha]; rfl
    rw [e1, e2]
    rw [ha] at HA ⊢
    clear e1 e2 ha
    go_enter Try.func36, Try.ntmps36
    go_wp2_with (go_at_call 67; refine (HA.out _).mono ?_; rintro e wa ⟨rfl, hba⟩; have hx := HX.out.kept hba; have r0 := hx.r.1; have r1 := hx.r.2.1; have y0 := hx.z.c0; have y1 := hx.z.c1; have y2 := hx.z.f0; have y3 := hx.z.f1; have lt1 := hx.z.lt; have HX2 := Lib.hid hx; clear hx hba)
    obtain ⟨z0, z1, hzb⟩ := HX2.out.z.done 0 0
    refine bodyPost_ret (v := ratRet 0 0 false) ?_ rfl ⟨rfl, hzb⟩
    clear hzb
    generalize (wa.setCell ⟨w.heap.size + 1, 0, none⟩ (.int .i64 0)).setCell ⟨w.heap.size + 1, 1, none⟩ (.int .i64 0) = WF at *
    simp [results, Try.f36, go_sem, z0, z1]
end Go.Proofs.Ytfimcadnlhohlaa
