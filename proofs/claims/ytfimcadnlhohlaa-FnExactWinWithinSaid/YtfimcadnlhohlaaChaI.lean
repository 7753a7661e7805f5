/- The program's chanceAfter, WinWithin, RuinWithin, StillPlaying. -/
import Derived.Test.YtfimcadnlhohlaaPartI
import Derived.Test.YtfimcadnlhohlaaSpS
namespace Go.Proofs.Ytfimcadnlhohlaa
open Go.RowKit
set_option linter.unusedVariables false
/-- a part of a row -/
theorem RInts.seg {w : World} {B g c m : Nat} {F : Nat → Int} (hr : IRow w B (.slice (some ⟨g, 0, none⟩) m c) (fr F m)) {a k : Nat} (hk : a + k ≤ m) : RInts w (.slice (some ⟨g, a, none⟩) k (c - a)) (fr (fun j => F (a + j)) k) := by
  have h0 := RInts.of_row hr
  have hroom := h0.room _ _ _ rfl
  refine ⟨⟨_, _, by rw [fr_length]⟩, fun A n c' e => by injection e with e1 e2 e3; subst e2 e3; exact ⟨by omega, by omega⟩, fun hx => ?_⟩
  rw [fr_length] at hx ⊢
  refine ⟨g, a, c - a, rfl, hr.lt.2, fun j hj => ?_⟩
  have := hr.cell (j := a + j) (by rw [fr_length]; omega)
  rw [fr_get _ _ _ (by omega)] at this ⊢
  exact this
theorem sumTo_seg (F : Nat → Int) (a : Nat) : ∀ k, sumTo (fun j => F (a + j)) k = sumTo F (a + k) - sumTo F a
  | 0 => by simp [sumTo]
  | k + 1 => by
    show sumTo (fun j => F (a + j)) k + F (a + k) = (sumTo F (a + k) + F (a + k)) - sumTo F a
    rw [sumTo_seg F a k]
    omega
theorem sumSeg {F : Nat → Int} {m a k : Nat} (hk : a + k ≤ m) (hm : m ≤ 1000) (h0 : ∀ j, 0 ≤ F j) (hb : sumTo F m ≤ 9000000000000000000) {X : World} {B g c : Nat} (hr : IRow X B (.slice (some ⟨g, 0, none⟩) m c) (fr F m)) :
    Calls Try.prog 61 #[.slice (some ⟨g, a, none⟩) k (c - a)] X fun e w' => e = .returned (.int .i64 (sumTo (fun j => F (a + j)) k)) ∧ X = w' := by
  have h := sumInts_any _ (fr (fun j => F (a + j)) k) X (RInts.seg hr hk) (by rw [fr_length]; omega) (fun j hj => by
    rw [fr_length] at hj
    rw [sumK_fr _ k j hj]
    refine ⟨sumTo_nonneg fun q _ => h0 _, ?_⟩
    have h1 := sumTo_seg F a j
    have h2 := sumTo_le (F := F) (m := m) (fun q _ => h0 q) (a + j) (by omega)
    have h3 := sumTo_nonneg (F := F) (m := a) fun q _ => h0 q
    omega)
  rwa [fr_length, sumK_fr _ k k (Nat.le_refl _)] at h
set_option maxRecDepth 100000 in
set_option maxHeartbeats 2000000 in
theorem chance_yes (i g n d k : Int) (a b : Nat) (w : World) (ht : timB i g n d k = true) (hab : a ≤ b) (hbg : (b : Int) ≤ g + 1) (hag : (a : Int) ≤ g) :
    Calls Try.prog 69 #[.int .i64 i, .int .i64 g, .agg #[.int .i64 n, .int .i64 d], .int .i64 k, .int .i64 (a : Int), .int .i64 (b : Int)] w
      (Ret w (ratRet (numZ (sumTo (fun j => hw i.toNat g.toNat n d k.toNat (a + j)) (b - a)) (d ^ k.toNat)) (denZ (sumTo (fun j => hw i.toNat g.toNat n d k.toNat (a + j)) (b - a)) (d ^ k.toNat)) true)) := by
  obtain ⟨ha, h2, h3⟩ := timB_of ht
  obtain ⟨bg, bi, bd, bn⟩ := askB_of ha
  have HPA : Hid (∀ w, Calls Try.prog 70 #[.int .i64 i, .int .i64 g, .agg #[.int .i64 n, .int .i64 d], .int .i64 k] w (RowTrue w (fr (hw i.toNat g.toNat n d k.toNat) (g.toNat + 1)))) := Lib.hid fun w => partsAfter_yes i g n d k w ht
  have HX := Lib.hid (RZ.start w n d)
  have r0 := HX.out.r.1
  have r1 := HX.out.r.2.1
  have y0 := HX.out.z.c0
  have y1 := HX.out.z.c1
  have y2 := HX.out.z.f0
  have y3 := HX.out.z.f1
  clear ht ha
  obtain ⟨I, rfl⟩ := Int.eq_ofNat_of_zero_le bi.1
  obtain ⟨G, rfl⟩ := Int.eq_ofNat_of_zero_le (show 0 ≤ g by omega)
  obtain ⟨K, rfl⟩ := Int.eq_ofNat_of_zero_le h2
  simp only [Int.toNat_natCast] at HPA ⊢
  have hn0 := hw_nonneg I G (n := n) (d := d) (by omega) (by omega) K
  have hsum := hw_sum (i := I) (g := G) (by omega) n d K
  have hp6 := pow6' (x := d) (by omega) (k := K) (by omega)
  have hp1 := pow_pos1 (x := d) (by omega) K
  have hF : ∀ j, 0 ≤ hw I G n d K j := hn0
  have hsb : sumTo (hw I G n d K) (G + 1) ≤ 9000000000000000000 := by omega
  have HSUM : Hid (∀ (X : World) (B gg cc : Nat), IRow X B (.slice (some ⟨gg, 0, none⟩) (G + 1) cc) (fr (hw I G n d K) (G + 1)) → ((b : Int) ≤ (cc : Int) ∧ ¬ cc = a) ∧ (Calls Try.prog 61 #[.slice (some ⟨gg, a, none⟩) (b - a) (cc - a)] X fun e w' => e = .returned (.int .i64 (sumTo (fun j => hw I G n d K (a + j)) (b - a))) ∧ X = w') ∧ (Calls Try.prog 61 #[.slice (some ⟨gg, 0, none⟩) (G + 1) cc] X fun e w' => e = .returned (.int .i64 (d ^ K)) ∧ X = w')) := Lib.hid fun X B gg cc hr =>
    ⟨⟨by have := rowCap hr; omega, by have := rowCap hr; omega⟩, sumSeg (by omega) (by omega) hF hsb hr, by
      have := sumSeg (a := 0) (k := G + 1) (by omega) (by omega) hF hsb hr
      rw [show sumTo (fun j => hw I G n d K (0 + j)) (G + 1) = d ^ K by rw [← hsum]; congr 1; funext j; rw [Nat.zero_add]] at this
      exact this⟩
  have hsg := sumTo_seg (hw I G n d K) a (b - a)
  have hse := sumTo_le (F := hw I G n d K) (m := G + 1) (fun q _ => hF q) (a + (b - a)) (by omega)
  have hs0 := sumTo_nonneg (F := hw I G n d K) (m := a) fun q _ => hF q
  have hs1 := sumTo_nonneg (F := fun j => hw I G n d K (a + j)) (m := b - a) fun q _ => hF _
  have hp2 : sumTo (fun j => hw I G n d K (a + j)) (b - a) ≤ d ^ K := by omega
  generalize sumTo (fun j => hw I G n d K (a + j)) (b - a) = u1 at *
  generalize d ^ K = u2 at *
  have HR : Hid (∀ w, Calls Try.prog 60 #[.int .i64 u1, .int .i64 u2] w (Ret w (.agg #[.int .i64 (numZ u1 u2), .int .i64 (denZ u1 u2)]))) := Lib.hid fun w => lowZ_any _ _ w (by omega) (by omega)
  generalize numZ u1 u2 = x at *
  generalize denZ u1 u2 = y at *
  have k1 : (a : Int) ≤ (b : Int) := by omega
  have k2 : (0 : Int) ≤ (a : Int) := by omega
  clear hn0 hsum hp6 hp1 hF hsb hsg hse hs0 hs1 hp2
  go_enter Try.func69, Try.ntmps69
  go_wp2_with (first | (go_at_call 70; refine (HPA.out _).mono ?_; rintro e w3 ⟨v3, rfl, hr3, hb3⟩; have hx := HX.out.kept hb3; have q0 := hx.z.c0; have q1 := hx.z.c1; have q2 := hx.z.f0; have q3 := hx.z.f1; obtain ⟨g3, c3, rfl, hg3, hl3⟩ := hr3.form' (fr_length _ _) (by omega); have hs := HSUM.out _ _ _ _ hr3; have cp := hs.1.1; have cq := hs.1.2; have S1 := Lib.hid hs.2.1; have S2 := Lib.hid hs.2.2; have HX3 := Lib.hid hx; clear hx hb3 hs hr3 hg3 hl3 r0 r1 y0 y1 y2 y3) | (go_at_call 61; first | (with_reducible refine S1.out.mono ?_; rintro e w' ⟨rfl, rfl⟩) | (with_reducible refine S2.out.mono ?_; rintro e w' ⟨rfl, rfl⟩)) | (go_at_call 60; refine (HR.out _).mono ?_; rintro e wz ⟨rfl, hbz⟩; have hx := HX3.out.kept hbz; have s0 := hx.z.c0; have s1 := hx.z.c1; have s2 := hx.z.f0; have s3 := hx.z.f1; have HX4 := Lib.hid hx; clear hx hbz q0 q1 q2 q3))
  obtain ⟨z0, z1, hzb⟩ := HX4.out.z.done x y
  refine bodyPost_ret (v := ratRet x y true) ?_ rfl ⟨rfl, hzb⟩
  clear hzb
  generalize (wz.setCell ⟨w.heap.size + 1, 0, none⟩ (.int .i64 x)).setCell ⟨w.heap.size + 1, 1, none⟩ (.int .i64 y) = WF at *
  simp [results, Try.f69, go_sem, z0, z1]
set_option maxRecDepth 100000 in
set_option maxHeartbeats 2000000 in
theorem chance_no (i g n d k a b : Int) (w : World) (ht : timB i g n d k = false) :
    Calls Try.prog 69 #[.int .i64 i, .int .i64 g, .agg #[.int .i64 n, .int .i64 d], .int .i64 k, .int .i64 a, .int .i64 b] w (Ret w (ratRet 0 0 false)) := by
  have HPA : Hid (∀ w, Calls Try.prog 70 #[.int .i64 i, .int .i64 g, .agg #[.int .i64 n, .int .i64 d], .int .i64 k] w (Ret w (.tuple #[.slice none 0 0, .bool false]))) := Lib.hid fun w => partsAfter_no i g n d k w ht
  have HX := Lib.hid (RZ.start w n d)
  have r0 := HX.out.r.1
  have r1 := HX.out.r.2.1
  clear ht
  go_enter Try.func69, Try.ntmps69
  go_wp2_with (go_at_call 70; refine (HPA.out _).mono ?_; rintro e w3 ⟨rfl, hb3⟩; have hx := HX.out.kept hb3; have q0 := hx.z.c0; have q1 := hx.z.c1; have q2 := hx.z.f0; have q3 := hx.z.f1; have HX3 := Lib.hid hx; clear hx hb3 r0 r1)
  obtain ⟨z0, z1, hzb⟩ := HX3.out.z.done 0 0
  refine bodyPost_ret (v := ratRet 0 0 false) ?_ rfl ⟨rfl, hzb⟩
  clear hzb
  generalize (w3.setCell ⟨w.heap.size + 1, 0, none⟩ (.int .i64 0)).setCell ⟨w.heap.size + 1, 1, none⟩ (.int .i64 0) = WF at *
  simp [results, Try.f69, go_sem, z0, z1]
set_option maxRecDepth 100000 in
set_option maxHeartbeats 2000000 in
theorem winWithinI_ret (i g n d k : Int) (w : World) : Calls Try.prog 33 #[.int .i64 i, .int .i64 g, .agg #[.int .i64 n, .int .i64 d], .int .i64 k] w (Ret w (ratRet (wwP i g n d k) (wwQ i g n d k) (timB i g n d k))) := by
  have HX := Lib.hid (RZ.start w n d)
  have r0 := HX.out.r.1
  have r1 := HX.out.r.2.1
  rcases Bool.eq_false_or_eq_true (timB i g n d k) with ht | ht
  · have hb := timB_of ht
    obtain ⟨bg, bi, bd, bn⟩ := askB_of hb.1
    have HC : Hid (∀ w, Calls Try.prog 69 #[.int .i64 i, .int .i64 g, .agg #[.int .i64 n, .int .i64 d], .int .i64 k, .int .i64 g, .int .i64 (g + 1)] w (Ret w (ratRet (wwP i g n d k) (wwQ i g n d k) true))) := Lib.hid fun w => by
      have := chance_yes i g n d k g.toNat (g.toNat + 1) w ht (by omega) (by omega) (by omega)
      unfold wwP wwQ
      rw [if_pos ht, if_pos ht]
      rw [show ((g.toNat : Nat) : Int) = g by omega, show ((g.toNat + 1 : Nat) : Int) = g + 1 by omega, show g.toNat + 1 - g.toNat = 1 by omega] at this
      have e : sumTo (fun j => hw i.toNat g.toNat n d k.toNat (g.toNat + j)) 1 = hw i.toNat g.toNat n d k.toNat g.toNat := by simp [sumTo]
      rw [e] at this
      exact this
    rw [ht]
    generalize wwP i g n d k = x at *
    generalize wwQ i g n d k = y at *
    have k1 : -9223372036854775808 ≤ g + 1 ∧ g + 1 ≤ 9223372036854775807 := by omega
    clear ht hb
    go_enter Try.func33, Try.ntmps33
    go_wp2_with (go_at_call 69; refine (HC.out _).mono ?_; rintro e wz ⟨rfl, hbz⟩; have hx := HX.out.kept hbz; have s0 := hx.z.c0; have s1 := hx.z.c1; have s2 := hx.z.f0; have s3 := hx.z.f1; have HX4 := Lib.hid hx; clear hx hbz r0 r1)
    obtain ⟨z0, z1, hzb⟩ := HX4.out.z.done x y
    refine bodyPost_ret (v := ratRet x y true) ?_ rfl ⟨rfl, hzb⟩
    clear hzb
    generalize (wz.setCell ⟨w.heap.size + 1, 0, none⟩ (.int .i64 x)).setCell ⟨w.heap.size + 1, 1, none⟩ (.int .i64 y) = WF at *
    simp [results, Try.f33, go_sem, z0, z1]
  · have e1 : wwP i g n d k = 0 := by unfold wwP; rw [ht]; rfl
    have e2 : wwQ i g n d k = 0 := by unfold wwQ; rw [ht]; rfl
    have HC : Hid (∀ a b w, Calls Try.prog 69 #[.int .i64 i, .int .i64 g, .agg #[.int .i64 n, .int .i64 d], .int .i64 k, .int .i64 a, .int .i64 b] w (Ret w (ratRet 0 0 false))) := Lib.hid fun a b w => chance_no i g n d k a b w ht
    rw [e1, e2, ht]
    clear e1 e2 ht
    go_enter Try.func33, Try.ntmps33
    go_wp2_with (go_at_call 69; refine (HC.out _ _ _).mono ?_; rintro e wz ⟨rfl, hbz⟩; have hx := HX.out.kept hbz; have s0 := hx.z.c0; have s1 := hx.z.c1; have s2 := hx.z.f0; have s3 := hx.z.f1; have HX4 := Lib.hid hx; clear hx hbz r0 r1)
    obtain ⟨z0, z1, hzb⟩ := HX4.out.z.done 0 0
    refine bodyPost_ret (v := ratRet 0 0 false) ?_ rfl ⟨rfl, hzb⟩
    clear hzb
    generalize (wz.setCell ⟨w.heap.size + 1, 0, none⟩ (.int .i64 0)).setCell ⟨w.heap.size + 1, 1, none⟩ (.int .i64 0) = WF at *
    simp [results, Try.f33, go_sem, z0, z1]
set_option maxRecDepth 100000 in
set_option maxHeartbeats 2000000 in
theorem ruinWithinI_ret (i g n d k : Int) (w : World) : Calls Try.prog 35 #[.int .i64 i, .int .i64 g, .agg #[.int .i64 n, .int .i64 d], .int .i64 k] w (Ret w (ratRet (rwP i g n d k) (rwQ i g n d k) (timB i g n d k))) := by
  have HX := Lib.hid (RZ.start w n d)
  have r0 := HX.out.r.1
  have r1 := HX.out.r.2.1
  rcases Bool.eq_false_or_eq_true (timB i g n d k) with ht | ht
  · have hb := timB_of ht
    obtain ⟨bg, bi, bd, bn⟩ := askB_of hb.1
    have HC : Hid (∀ w, Calls Try.prog 69 #[.int .i64 i, .int .i64 g, .agg #[.int .i64 n, .int .i64 d], .int .i64 k, .int .i64 0, .int .i64 1] w (Ret w (ratRet (rwP i g n d k) (rwQ i g n d k) true))) := Lib.hid fun w => by
      have := chance_yes i g n d k 0 1 w ht (by omega) (by omega) (by omega)
      unfold rwP rwQ
      rw [if_pos ht, if_pos ht]
      have e : sumTo (fun j => hw i.toNat g.toNat n d k.toNat (0 + j)) 1 = hw i.toNat g.toNat n d k.toNat 0 := by simp [sumTo]
      rw [show 1 - 0 = 1 from rfl, e] at this
      exact this
    rw [ht]
    generalize rwP i g n d k = x at *
    generalize rwQ i g n d k = y at *
    clear ht hb
    go_enter Try.func35, Try.ntmps35
    go_wp2_with (go_at_call 69; refine (HC.out _).mono ?_; rintro e wz ⟨rfl, hbz⟩; have hx := HX.out.kept hbz; have s0 := hx.z.c0; have s1 := hx.z.c1; have s2 := hx.z.f0; have s3 := hx.z.f1; have HX4 := Lib.hid hx; clear hx hbz r0 r1)
    obtain ⟨z0, z1, hzb⟩ := HX4.out.z.done x y
    refine bodyPost_ret (v := ratRet x y true) ?_ rfl ⟨rfl, hzb⟩
    clear hzb
    generalize (wz.setCell ⟨w.heap.size + 1, 0, none⟩ (.int .i64 x)).setCell ⟨w.heap.size + 1, 1, none⟩ (.int .i64 y) = WF at *
    simp [results, Try.f35, go_sem, z0, z1]
  · have e1 : rwP i g n d k = 0 := by unfold rwP; rw [ht]; rfl
    have e2 : rwQ i g n d k = 0 := by unfold rwQ; rw [ht]; rfl
    have HC : Hid (∀ a b w, Calls Try.prog 69 #[.int .i64 i, .int .i64 g, .agg #[.int .i64 n, .int .i64 d], .int .i64 k, .int .i64 a, .int .i64 b] w (Ret w (ratRet 0 0 false))) := Lib.hid fun a b w => chance_no i g n d k a b w ht
    rw [e1, e2, ht]
    clear e1 e2 ht
    go_enter Try.func35, Try.ntmps35
    go_wp2_with (go_at_call 69; refine (HC.out _ _ _).mono ?_; rintro e wz ⟨rfl, hbz⟩; have hx := HX.out.kept hbz; have s0 := hx.z.c0; have s1 := hx.z.c1; have s2 := hx.z.f0; have s3 := hx.z.f1; have HX4 := Lib.hid hx; clear hx hbz r0 r1)
    obtain ⟨z0, z1, hzb⟩ := HX4.out.z.done 0 0
    refine bodyPost_ret (v := ratRet 0 0 false) ?_ rfl ⟨rfl, hzb⟩
    clear hzb
    generalize (wz.setCell ⟨w.heap.size + 1, 0, none⟩ (.int .i64 0)).setCell ⟨w.heap.size + 1, 1, none⟩ (.int .i64 0) = WF at *
    simp [results, Try.f35, go_sem, z0, z1]
set_option maxRecDepth 100000 in
set_option maxHeartbeats 2000000 in
theorem stillI_ret (i g n d k : Int) (w : World) : Calls Try.prog 37 #[.int .i64 i, .int .i64 g, .agg #[.int .i64 n, .int .i64 d], .int .i64 k] w (Ret w (ratRet (stP i g n d k) (stQ i g n d k) (timB i g n d k))) := by
  have HX := Lib.hid (RZ.start w n d)
  have r0 := HX.out.r.1
  have r1 := HX.out.r.2.1
  rcases Bool.eq_false_or_eq_true (timB i g n d k) with ht | ht
  · have hb := timB_of ht
    obtain ⟨bg, bi, bd, bn⟩ := askB_of hb.1
    have HC : Hid (∀ w, Calls Try.prog 69 #[.int .i64 i, .int .i64 g, .agg #[.int .i64 n, .int .i64 d], .int .i64 k, .int .i64 1, .int .i64 g] w (Ret w (ratRet (stP i g n d k) (stQ i g n d k) true))) := Lib.hid fun w => by
      have := chance_yes i g n d k 1 g.toNat w ht (by omega) (by omega) (by omega)
      unfold stP stQ
      rw [if_pos ht, if_pos ht]
      have e : sumTo (fun j => hw i.toNat g.toNat n d k.toNat (1 + j)) (g.toNat - 1) = spN i.toNat g.toNat n d k.toNat (g.toNat - 1) := by
        unfold spN
        congr 1
        funext j
        rw [Nat.add_comm]
      rw [show ((g.toNat : Nat) : Int) = g by omega, e] at this
      exact this
    rw [ht]
    generalize stP i g n d k = x at *
    generalize stQ i g n d k = y at *
    clear ht hb
    go_enter Try.func37, Try.ntmps37
    go_wp2_with (go_at_call 69; refine (HC.out _).mono ?_; rintro e wz ⟨rfl, hbz⟩; have hx := HX.out.kept hbz; have s0 := hx.z.c0; have s1 := hx.z.c1; have s2 := hx.z.f0; have s3 := hx.z.f1; have HX4 := Lib.hid hx; clear hx hbz r0 r1)
    obtain ⟨z0, z1, hzb⟩ := HX4.out.z.done x y
    refine bodyPost_ret (v := ratRet x y true) ?_ rfl ⟨rfl, hzb⟩
    clear hzb
    generalize (wz.setCell ⟨w.heap.size + 1, 0, none⟩ (.int .i64 x)).setCell ⟨w.heap.size + 1, 1, none⟩ (.int .i64 y) = WF at *
    simp [results, Try.f37, go_sem, z0, z1]
  · have e1 : stP i g n d k = 0 := by unfold stP; rw [ht]; rfl
    have e2 : stQ i g n d k = 0 := by unfold stQ; rw [ht]; rfl
    have HC : Hid (∀ a b w, Calls Try.prog 69 #[.int .i64 i, .int .i64 g, .agg #[.int .i64 n, .int .i64 d], .int .i64 k, .int .i64 a, .int .i64 b] w (Ret w (ratRet 0 0 false))) := Lib.hid fun a b w => chance_no i g n d k a b w ht
    rw [e1, e2, ht]
    clear e1 e2 ht
    go_enter Try.func37, Try.ntmps37
    go_wp2_with (go_at_call 69; refine (HC.out _ _ _).mono ?_; rintro e wz ⟨rfl, hbz⟩; have hx := HX.out.kept hbz; have s0 := hx.z.c0; have s1 := hx.z.c1; have s2 := hx.z.f0; have s3 := hx.z.f1; have HX4 := Lib.hid hx; clear hx hbz r0 r1)
    obtain ⟨z0, z1, hzb⟩ := HX4.out.z.done 0 0
    refine bodyPost_ret (v := ratRet 0 0 false) ?_ rfl ⟨rfl, hzb⟩
    clear hzb
    generalize (wz.setCell ⟨w.heap.size + 1, 0, none⟩ (.int .i64 0)).setCell ⟨w.heap.size + 1, 1, none⟩ (.int .i64 0) = WF at *
    simp [results, Try.f37, go_sem, z0, z1]
end Go.Proofs.Ytfimcadnlhohlaa
