/- The model's WeightOf. -/
import Derived.Test.YtnmmgpmhpjjehaaLvS
namespace Go.Proofs.Ytnmmgpmhpjjehaa
open Go.RowKit
set_option linter.unusedVariables false
theorem w_bd {x a : Int} {k : Nat} (hx : -((5 ^ k : Nat) : Int) ≤ x ∧ x ≤ ((5 ^ k : Nat) : Int)) (ha : -5 ≤ a ∧ a ≤ 5) : -((5 ^ (k + 1) : Nat) : Int) ≤ x * a ∧ x * a ≤ ((5 ^ (k + 1) : Nat) : Int) := by
  have h1 : x.natAbs ≤ 5 ^ k := by omega
  have h2 : a.natAbs ≤ 5 := by omega
  have h3 : (x * a).natAbs ≤ 5 ^ k * 5 := by rw [Int.natAbs_mul]; exact Nat.mul_le_mul h1 h2
  rw [Nat.pow_succ]
  omega
theorem p5_bd {k : Nat} (h : k ≤ 12) : ((5 ^ k : Nat) : Int) ≤ 244140625 := by
  have : 5 ^ k ≤ 5 ^ 12 := Nat.pow_le_pow_right (by omega) h
  have e : (5 : Nat) ^ 12 = 244140625 := by decide
  rw [e] at this
  exact Int.ofNat_le.2 this
theorem wg_none {fs ds : List Int} {s : ByteArray} (h : wgG fs ds s.data.toList 0 1 = none) : wgOk fs ds s = false ∧ wgV fs ds s = 0 := by
  have : wgOk fs ds s = false := by unfold wgOk; rw [h]; simp
  exact ⟨this, by unfold wgV; rw [this]; rfl⟩
theorem wg_some {fs ds : List Int} {s : ByteArray} {x : Int} (h1 : lvB fs ds = true) (h2 : mixB s = true) (h : wgG fs ds s.data.toList 0 1 = some x) : wgOk fs ds s = true ∧ wgV fs ds s = x := by
  have : wgOk fs ds s = true := by unfold wgOk; rw [h, h1, h2]; rfl
  exact ⟨this, by unfold wgV; rw [this, h]; rfl⟩
theorem mix_k {c : UInt8} {l : List UInt8} {h : Int} (e : mixGo (c :: l) h = true) (e1 : ¬ c = 85) (e2 : ¬ c = 70) : c = 68 := by
  refine Classical.byContradiction fun e3 => ?_
  rw [mix_n l h e1 e3 e2] at e
  exact absurd e (by simp)
set_option maxRecDepth 100000 in
set_option maxHeartbeats 1600000 in
theorem specWeightOf_ret (v u : Value) (fs ds : List Int) (s : ByteArray) (w : World) (hF : RInts w v fs) (hD : RInts w u ds) (h1 : fs.length ≤ 1048576) (h2 : ds.length ≤ 1048576) (hs : s.size ≤ maxLen) :
    Calls Try.prog 45 #[.agg #[v, u], .string s] w (Ret w (.tuple #[.int .i64 (wgV fs ds s), .bool (wgOk fs ds s)])) := by
  obtain ⟨W, hW⟩ : ∃ W, W = w.alloc (.cells #[v, u] 45) := ⟨_, rfl⟩
  have hb : Below w.heap.size w W := by rw [hW]; exact (Below.refl _ _).alloc (Nat.le_refl _) _
  have HK : Hid (Calls Try.prog 86 #[.agg #[v, u]] W (Ret W (.bool (lvB fs ds)))) := Lib.hid (kiLevels_any v u fs ds _ (hF.below hb) (hD.below hb) h1 h2)
  have HM : Hid (∀ w, Calls Try.prog 74 #[.string s] w fun e w' => e = .returned (.bool (mixB s)) ∧ w = w') := Lib.hid fun w => kiMixed_any s w hs
  have hz : W.heap.size = w.heap.size + 1 := by rw [hW]; simp
  have c0 : W.cell? ⟨w.heap.size, 0, none⟩ = some v := by rw [hW]; simp [go_sem]
  have c1 : W.cell? ⟨w.heap.size, 1, none⟩ = some u := by rw [hW]; simp [go_sem]
  have HF := Lib.hid (hF.below hb)
  have HD := Lib.hid (hD.below hb)
  have HW := Lib.hid hW
  obtain ⟨A, c, rfl⟩ := hF.shape
  obtain ⟨A2, c2, rfl⟩ := hD.shape
  clear hF hD hW
  rcases Bool.eq_false_or_eq_true (lvB fs ds) with hl | hl
  · rcases Bool.eq_false_or_eq_true (mixB s) with hm | hm
    · have hf := lvB_of hl
      have h12 := mixB_size hm
      obtain ⟨g, hg⟩ : ∃ g, g = wgG fs ds s.data.toList 0 1 := ⟨_, rfl⟩
      have HNO : Hid (g = none → wgOk fs ds s = false ∧ wgV fs ds s = 0) := Lib.hid fun e => wg_none (by rw [← hg]; exact e)
      have HYES : Hid (∀ x, g = some x → wgOk fs ds s = true ∧ wgV fs ds s = x) := Lib.hid fun x e => wg_some hl hm (by rw [← hg]; exact e)
      have HG0 : Hid (wgG fs ds (s.data.toList.drop 0) 0 1 = g) := Lib.hid hg.symm
      have HM0 : Hid (mixGo (s.data.toList.drop 0) ((0 : Nat) : Int) = true) := Lib.hid (by unfold mixB at hm; rw [Bool.and_eq_true] at hm; exact hm.2)
      rw [hl] at HK
      rw [hm] at HM
      clear hg hl hm
      obtain ⟨hn, hdn, hfv, hdv⟩ := hf
      obtain ⟨q1, o1, d1, hv1, hq1, hcF⟩ := HF.out.cells (by omega)
      have hA : A = some ⟨q1, o1, none⟩ := by injection hv1
      subst hA
      clear hv1
      obtain ⟨q2, o2, d2, hv2, hq2, hcD⟩ := HD.out.cells (by omega)
      have hA2 : A2 = some ⟨q2, o2, none⟩ := by injection hv2
      subst hA2
      clear hv2
      have HCF := Lib.hid hcF
      have HCD := Lib.hid hcD
      have HFV := Lib.hid hfv
      have HDV := Lib.hid hdv
      have HB := Lib.hid hb
      clear hcF hcD hfv hdv hb HF HD
      have hdb : 1 ≤ ds.length ∧ ds.length ≤ 6 := by omega
      clear hdn
      go_enter Try.func45, Try.ntmps45
      go_wp2_with (go_at_call 86; rw [← HW.out]; refine HK.out.mono ?_; rintro e w2 ⟨rfl, hbk⟩)
      have e0 := (hbk.cell (p := ⟨w.heap.size, 0, none⟩) (show w.heap.size < W.heap.size by omega)).trans c0
      have e1 := (hbk.cell (p := ⟨w.heap.size, 1, none⟩) (show w.heap.size < W.heap.size by omega)).trans c1
      have HCF2 : Hid (∀ j, j < fs.length → w2.cell? ⟨q1, o1 + j, none⟩ = some (.int .i64 (fs.getD j 0))) := Lib.hid fun j hj => (hbk.cell (p := ⟨q1, o1 + j, none⟩) hq1).trans (HCF.out j hj)
      have HCD2 : Hid (∀ j, j < ds.length → w2.cell? ⟨q2, o2 + j, none⟩ = some (.int .i64 (ds.getD j 0))) := Lib.hid fun j hj => (hbk.cell (p := ⟨q2, o2 + j, none⟩) hq2).trans (HCD.out j hj)
      have HB2 : Hid (Below w.heap.size w w2) := Lib.hid (HB.out.trans (hbk.mono (by omega)))
      clear HCF HCD HB c0 c1 hbk HK HW hz hq1 hq2
      go_wp2_with (go_at_call 74; refine (HM.out _).mono ?_; rintro e w3 ⟨rfl, rfl⟩)
      clear HM
      go_loop [6, 7, 8] (fun x h i => ∃ (k m : Nat) (z : Int), k ≤ s.size ∧ m ≤ k ∧ i = .int .i64 (k : Int) ∧ h = .int .i64 (m : Int) ∧ x = .int .i64 z ∧ (-((5 ^ k : Nat) : Int) ≤ z ∧ z ≤ ((5 ^ k : Nat) : Int)) ∧ Hid (mixGo (s.data.toList.drop k) (m : Int) = true) ∧ Hid (wgG fs ds (s.data.toList.drop k) m z = g)) (fun _ _ i => s.size - (intOf i).toNat)
      case atStart => exact ⟨0, 0, 1, Nat.zero_le _, Nat.le_refl _, rfl, rfl, rfl, by simp, HM0, HG0⟩
      case round =>
        obtain ⟨k, m, z, hk, hmk, rfl, rfl, rfl, hz, HMK, HGK⟩ := hrel
        clear HM0 HG0
        by_cases hlt : k < s.size
        · have hzb := p5_bd (k := k) (by omega)
          have hzc := p5_bd (k := k + 1) (by omega)
          have HZ := Lib.hid hz
          have hz2 : -244140625 ≤ z ∧ z ≤ 244140625 := by omega
          have HDR := drop_at s k hlt
          have HG1 := HGK.out
          have HM1 := HMK.out
          rw [HDR] at HG1 HM1
          generalize hll : s.data.toList.drop (k + 1) = l at *
          have HL := Lib.hid hll
          clear HDR HGK HMK hll hz
          have hc0 : s[k] = s[k] := rfl
          generalize hc : s[k] = c at HG1 HM1
          clear hc0
          by_cases c1 : c = 85
          · have q1 : ((s[k].toNat : Int) == 85) = true := by rw [hc, c1]; rfl
            have HG2 : Hid (wgG fs ds l (m + 1) z = g) := Lib.hid (by rw [← HG1]; subst c1; rfl)
            have HM2 : Hid (mixGo l ((m + 1 : Nat) : Int) = true) := Lib.hid (by rw [mix_u l _ c1 (by omega)] at HM1; rw [← HM1]; rfl)
            have HP : Hid (-((5 ^ (k + 1) : Nat) : Int) ≤ z ∧ z ≤ ((5 ^ (k + 1) : Nat) : Int)) := Lib.hid (by have := HZ.out; rw [Nat.pow_succ]; omega)
            clear HG1 HM1 hc hzb hzc
            go_wp2
            go_round
            case rel => exact ⟨k + 1, m + 1, z, by omega, by omega, by go_num, by go_num, rfl, HP.out, by rw [HL.out]; exact HM2, by rw [HL.out]; exact HG2⟩
            case measure => simp [intOf]; omega
          · have q1 : ((s[k].toNat : Int) == 85) = false := by rw [hc]; exact u8_int c1
            by_cases c2 : c = 70
            · have q2 : ((s[k].toNat : Int) == 70) = true := by rw [hc, c2]; rfl
              have HM2 : Hid (mixGo l (m : Int) = true) := Lib.hid (by rw [mix_f l _ c2 (by omega)] at HM1; exact HM1)
              by_cases hge : fs.length ≤ m
              · have HE := HNO.out (by rw [← HG1]; subst c2; show (if fs.length ≤ m then none else _) = none; rw [if_pos hge])
                have HEH := Lib.hid HE
                clear HG1 HM1 hc hzb hzc HE
                go_wp2
                go_ret2
                rw [HEH.out.1, HEH.out.2]
                exact ⟨rfl, HB2.out⟩
              · have HG2 : Hid (wgG fs ds l m (z * fs.getD m 0) = g) := Lib.hid (by rw [← HG1]; subst c2; show _ = (if fs.length ≤ m then none else _); rw [if_neg hge])
                have hcell := HCF2.out m (by omega)
                have hp := w_bd HZ.out (HFV.out m (by omega))
                have HP := Lib.hid hp
                generalize fs.getD m 0 = a at *
                have hp2 : -244140625 ≤ z * a ∧ z * a ≤ 244140625 := by omega
                clear HG1 HM1 hc hzb hzc hp
                go_wp2
                go_round
                case rel => exact ⟨k + 1, m, z * a, by omega, by omega, by go_num, rfl, by go_num, HP.out, by rw [HL.out]; exact HM2, by rw [HL.out]; exact HG2⟩
                case measure => simp [intOf]; omega
            · have q2 : ((s[k].toNat : Int) == 70) = false := by rw [hc]; exact u8_int c2
              have c3 := mix_k HM1 c1 c2
              rw [mix_d l _ c3, Bool.and_eq_true, decide_eq_true_iff] at HM1
              obtain ⟨m, rfl⟩ : ∃ n, m = n + 1 := ⟨m - 1, by omega⟩
              have HM2 : Hid (mixGo l (m : Int) = true) := Lib.hid (by rw [← HM1.2, show ((m + 1 : Nat) : Int) - 1 = (m : Int) by omega])
              by_cases hge : ds.length ≤ m
              · have HE := HNO.out (by rw [← HG1]; subst c3; show (if ds.length ≤ m + 1 - 1 then none else _) = none; rw [if_pos (by omega)])
                have HEH := Lib.hid HE
                clear HG1 HM1 hc hzb hzc HE
                go_wp2
                go_ret2
                rw [HEH.out.1, HEH.out.2]
                exact ⟨rfl, HB2.out⟩
              · have HG2 : Hid (wgG fs ds l m (z * ds.getD m 0) = g) := Lib.hid (by rw [← HG1]; subst c3; show _ = (if ds.length ≤ m + 1 - 1 then none else _); rw [if_neg (by omega)]; rfl)
                have hcell := HCD2.out m (by omega)
                have hda := HDV.out m (by omega)
                have hp := w_bd (a := ds.getD m 0) HZ.out (by omega)
                have HP := Lib.hid hp
                generalize ds.getD m 0 = a at *
                have hp2 : -244140625 ≤ z * a ∧ z * a ≤ 244140625 := by omega
                clear HG1 HM1 hc hzb hzc hp
                go_wp2
                go_round
                case rel => exact ⟨k + 1, m, z * a, by omega, by omega, by go_num, by go_num, by go_num, HP.out, by rw [HL.out]; exact HM2, by rw [HL.out]; exact HG2⟩
                case measure => simp [intOf]; omega
        · have HE : Hid (wgOk fs ds s = true ∧ wgV fs ds s = z) := Lib.hid (HYES.out z (by
            rw [← HGK.out, List.drop_of_length_le (by simp; omega)]
            rfl))
          clear HGK HMK hz
          go_wp2
          go_ret2
          rw [HE.out.1, HE.out.2]
          exact ⟨rfl, HB2.out⟩
    · have HE : Hid (wgOk fs ds s = false ∧ wgV fs ds s = 0) := Lib.hid (by
        have : wgOk fs ds s = false := by unfold wgOk; rw [hm]; simp
        exact ⟨this, by unfold wgV; rw [this]; rfl⟩)
      have HB := Lib.hid hb
      rw [hl] at HK
      rw [hm] at HM
      clear hb hl hm HF HD
      go_enter Try.func45, Try.ntmps45
      go_wp2_with (go_at_call 86; rw [← HW.out]; refine HK.out.mono ?_; rintro e w2 ⟨rfl, hbk⟩)
      have HB2 : Hid (Below w.heap.size w w2) := Lib.hid (HB.out.trans (hbk.mono (by omega)))
      clear HB c0 c1 hbk HK HW hz
      go_wp2_with (go_at_call 74; refine (HM.out _).mono ?_; rintro e w3 ⟨rfl, rfl⟩)
      go_ret2
      rw [HE.out.1, HE.out.2]
      exact ⟨rfl, HB2.out⟩
  · have HE : Hid (wgOk fs ds s = false ∧ wgV fs ds s = 0) := Lib.hid (by
      have : wgOk fs ds s = false := by unfold wgOk; rw [hl]; simp
      exact ⟨this, by unfold wgV; rw [this]; rfl⟩)
    have HB := Lib.hid hb
    rw [hl] at HK
    clear hb hl HF HD
    go_enter Try.func45, Try.ntmps45
    go_wp2_with (go_at_call 86; rw [← HW.out]; refine HK.out.mono ?_; rintro e w2 ⟨rfl, hbk⟩)
    have HB2 : Hid (Below w.heap.size w w2) := Lib.hid (HB.out.trans (hbk.mono (by omega)))
    clear HB c0 c1 hbk HK HW hz
    go_ret2
    rw [HE.out.1, HE.out.2]
    exact ⟨rfl, HB2.out⟩
end Go.Proofs.Ytnmmgpmhpjjehaa
