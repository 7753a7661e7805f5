/- WeightOf of the program. -/
import Derived.Test.YtnmmgpmhpjjehaaLvI
import Derived.Test.YtnmmgpmhpjjehaaWgS
import Derived.Test.YtnmmgpmhpjjehaaMoMath
import Derived.Deep.RegionHeld3
namespace Go.Proofs.Ytnmmgpmhpjjehaa
open Go.RowKit
set_option linter.unusedVariables false
theorem wg_step {fs ds : List Int} {c : UInt8} {l : List UInt8} {h : Nat} {x : Int} (hm : mixGo (c :: l) (h : Int) = true) :
    isK c = true ∧ (c = 68 → 1 ≤ h) ∧ ∃ h' : Nat, (h' : Int) = (h : Int) + kStep c ∧ mixGo l (h' : Int) = true ∧ wgG fs ds (c :: l) h x = if wgY fs ds c h = true then wgG fs ds l h' (x * wgX fs ds c h) else none := by
  rw [mixGo, Bool.and_eq_true, Bool.and_eq_true, decide_eq_true_eq] at hm
  obtain ⟨⟨hk, h0⟩, hm⟩ := hm
  have hk2 := hk
  unfold isK at hk
  simp only [Bool.or_eq_true, beq_iff_eq] at hk
  rcases hk with (rfl | rfl) | rfl
  · have e : kStep 85 = 1 := rfl
    rw [e] at h0 hm
    refine ⟨hk2, fun e => absurd e (by decide), h + 1, by rw [e]; omega, by rw [show ((h + 1 : Nat) : Int) = (h : Int) + 1 by omega]; exact hm, ?_⟩
    show wgG fs ds l (h + 1) x = if true = true then wgG fs ds l (h + 1) (x * 1) else none
    rw [if_pos rfl, Int.mul_one]
  · have e : kStep 68 = -1 := rfl
    rw [e] at h0 hm
    have h1 : 1 ≤ h := by omega
    refine ⟨hk2, fun _ => h1, h - 1, by rw [e]; omega, by rw [show ((h - 1 : Nat) : Int) = (h : Int) + -1 by omega]; exact hm, ?_⟩
    show (if ds.length ≤ h - 1 then none else wgG fs ds l (h - 1) (x * ds.getD (h - 1) 0)) = if decide (1 ≤ h ∧ h ≤ ds.length) = true then wgG fs ds l (h - 1) (x * (if 1 ≤ h ∧ h ≤ ds.length then ds.getD (h - 1) 0 else 0)) else none
    by_cases h2 : h ≤ ds.length
    · rw [if_neg (by omega), if_pos (by simp; omega), if_pos ⟨h1, h2⟩]
    · rw [if_pos (by omega), if_neg (by simp; omega)]
  · have e : kStep 70 = 0 := rfl
    rw [e] at h0 hm
    refine ⟨hk2, fun e => absurd e (by decide), h, by rw [e]; omega, by rw [show (h : Int) = (h : Int) + 0 by omega]; exact hm, ?_⟩
    show (if fs.length ≤ h then none else wgG fs ds l h (x * fs.getD h 0)) = if decide (h < fs.length) = true then wgG fs ds l h (x * (if h < fs.length then fs.getD h 0 else 0)) else none
    by_cases h2 : h < fs.length
    · rw [if_neg (by omega), if_pos (by simpa using h2), if_pos h2]
    · rw [if_pos (by omega), if_neg (by simpa using h2)]
theorem wgX_bd {fs ds : List Int} (hf : ∀ k, k < fs.length → -5 ≤ fs.getD k 0 ∧ fs.getD k 0 ≤ 5) (hd : ∀ k, k < ds.length → 1 ≤ ds.getD k 0 ∧ ds.getD k 0 ≤ 5) (c : UInt8) (h : Nat) : -5 ≤ wgX fs ds c h ∧ wgX fs ds c h ≤ 5 := by
  unfold wgX
  split
  · omega
  · split
    · split
      · exact hf _ (by assumption)
      · omega
    · split
      · have := hd (h - 1) (by omega)
        omega
      · omega
/-- a box of two cells, and what was there is still there -/
structure BxAt (w0 : World) (b : Nat) (v u : Value) (W : World) : Prop where
  c0 : W.cell? ⟨b, 0, none⟩ = some v
  c1 : W.cell? ⟨b, 1, none⟩ = some u
  lt : b < w0.heap.size
  below : Below w0.heap.size w0 W
theorem BxAt.kept {w0 W W' : World} {b : Nat} {v u : Value} (h : BxAt w0 b v u W) (hb : Below W.heap.size W W') : BxAt w0 b v u W' :=
  ⟨(hb.cell (p := ⟨b, 0, none⟩) (Nat.lt_of_lt_of_le h.lt h.below.size)).trans h.c0, (hb.cell (p := ⟨b, 1, none⟩) (Nat.lt_of_lt_of_le h.lt h.below.size)).trans h.c1, h.lt, h.below.trans (hb.mono h.below.size)⟩
theorem BxAt.drew {w0 W : World} {b : Nat} {v u : Value} (h : BxAt w0 b v u W) : BxAt w0 b v u W.drew := ⟨h.c0, h.c1, h.lt, below_drewN h.below 1⟩
def BxS (w0 : World) (b : Nat) (v u : Value) (W : World) : Prop := W.cell? ⟨b, 0, none⟩ = some v ∧ W.cell? ⟨b, 1, none⟩ = some u ∧ BxAt w0 b v u W
theorem bxKept {w0 W W' : World} {b : Nat} {v u : Value} (h : W.cell? ⟨b, 0, none⟩ = some v ∧ W.cell? ⟨b, 1, none⟩ = some u ∧ BxAt w0 b v u W) (hb : Below W.heap.size W W') : W'.cell? ⟨b, 0, none⟩ = some v ∧ W'.cell? ⟨b, 1, none⟩ = some u ∧ BxAt w0 b v u W' :=
  ⟨(h.2.2.kept hb).c0, (h.2.2.kept hb).c1, h.2.2.kept hb⟩
theorem bxAll {w0 W : World} {b : Nat} {v u : Value} (h : W.cell? ⟨b, 0, none⟩ = some v ∧ W.cell? ⟨b, 1, none⟩ = some u ∧ BxAt w0 b v u W) : BxAt w0 b v u W := h.2.2
theorem bxBel {w0 W : World} {b : Nat} {v u : Value} (h : W.cell? ⟨b, 0, none⟩ = some v ∧ W.cell? ⟨b, 1, none⟩ = some u ∧ BxAt w0 b v u W) : Below w0.heap.size w0 W := h.2.2.below
set_option maxRecDepth 100000 in
set_option maxHeartbeats 4000000 in
theorem weightOf_ret (v u : Value) (fs ds : List Int) (s : ByteArray) (w : World) (hF : RInts w v fs) (hD : RInts w u ds) (h1 : fs.length ≤ 1048576) (h2 : ds.length ≤ 1048576) (hs : s.size ≤ maxLen) :
    Calls Try.prog 46 #[.agg #[v, u], .string s] w (Ret w (.tuple #[.int .i64 (wgV fs ds s), .bool (wgOk fs ds s)])) := by
  obtain ⟨w1, hw1⟩ : ∃ w1, w1 = w.alloc (.cells #[v, u] 45) := ⟨_, rfl⟩
  have hb1 : Below w.heap.size w w1 := by rw [hw1]; exact (Below.refl _ _).alloc (Nat.le_refl _) _
  have hz1 : w1.heap.size = w.heap.size + 1 := by rw [hw1]; simp
  have HL := Lib.hid (isLevels_ret v u fs ds w1 (hF.below hb1) (hD.below hb1) h1 h2)
  have HM : Hid (∀ w, Calls Try.prog 28 #[.string s] w fun e w' => e = .returned (.bool (mixB s)) ∧ w = w') := Lib.hid fun w => isMixed_ret s w hs
  have c0 : w1.cell? ⟨w.heap.size, 0, none⟩ = some v := by rw [hw1]; simp [go_sem]
  have c1 : w1.cell? ⟨w.heap.size, 1, none⟩ = some u := by rw [hw1]; simp [go_sem]
  have HF := Lib.hid (hF.below hb1)
  have HD := Lib.hid (hD.below hb1)
  have HW := Lib.hid hw1
  have HB1 := Lib.hid hb1
  obtain ⟨A, a, rfl⟩ := hF.shape
  obtain ⟨A2, a2, rfl⟩ := hD.shape
  clear hw1 hb1 hF hD
  rcases Bool.eq_false_or_eq_true (lvB fs ds) with hl | hl
  case inr =>
    have e1 : wgOk fs ds s = false := by unfold wgOk; rw [hl]; rfl
    have e2 : wgV fs ds s = 0 := by unfold wgV; rw [e1]; rfl
    rw [e1, e2]
    rw [hl] at HL
    clear e1 e2 hl
    go_enter Try.func46, Try.ntmps46
    go_wp2_with fail
    rw [← HW.out]
    go_at_call 43
    refine HL.out.mono ?_
    rintro e w2 ⟨rfl, hb2⟩
    go_wp2
    go_ret2
    exact ⟨rfl, HB1.out.trans (hb2.mono (by omega))⟩
  rcases Bool.eq_false_or_eq_true (mixB s) with hm | hm
  case inr =>
    have e1 : wgOk fs ds s = false := by unfold wgOk; rw [hm, Bool.and_false]; rfl
    have e2 : wgV fs ds s = 0 := by unfold wgV; rw [e1]; rfl
    rw [e1, e2]
    rw [hl] at HL
    rw [hm] at HM
    clear e1 e2 hl hm
    go_enter Try.func46, Try.ntmps46
    go_wp2_with fail
    rw [← HW.out]
    go_at_call 43
    refine HL.out.mono ?_
    rintro e w2 ⟨rfl, hb2⟩
    go_wp2_with (go_at_call 28; refine (HM.out _).mono ?_; rintro e w' ⟨rfl, rfl⟩)
    go_ret2
    exact ⟨rfl, HB1.out.trans (hb2.mono (by omega))⟩
  have hf := lvB_of hl
  have h12 := mixB_size hm
  obtain ⟨G, hG⟩ : ∃ G, G = wgG fs ds s.data.toList 0 1 := ⟨_, rfl⟩
  have HNO : Hid (G = none → wgOk fs ds s = false ∧ wgV fs ds s = 0) := Lib.hid fun e => wg_none (by rw [← hG]; exact e)
  have HYES : Hid (∀ x, G = some x → wgOk fs ds s = true ∧ wgV fs ds s = x) := Lib.hid fun x e => wg_some hl hm (by rw [← hG]; exact e)
  have HG0 : Hid (wgG fs ds (s.data.toList.drop 0) 0 1 = G) := Lib.hid hG.symm
  have HM0 : Hid (mixGo (s.data.toList.drop 0) ((0 : Nat) : Int) = true) := Lib.hid (by unfold mixB at hm; rw [Bool.and_eq_true] at hm; exact hm.2)
  rw [hl] at HL
  rw [hm] at HM
  clear hG hl hm
  have HXB := Lib.hid (wgX_bd hf.2.2.1 hf.2.2.2)
  have hln : fs.length ≤ 6 ∧ ds.length ≤ 6 := ⟨hf.1.2, by have := hf.2.1; omega⟩
  clear hf
  go_enter Try.func46, Try.ntmps46
  go_wp2_with fail
  rw [← HW.out]
  go_at_call 43
  refine HL.out.mono ?_
  rintro e w2 ⟨rfl, hb2⟩
  have HX2 : Hid (BxAt w2 w.heap.size (.slice A fs.length a) (.slice A2 ds.length a2) w2) := Lib.hid ⟨(hb2.cell (p := ⟨w.heap.size, 0, none⟩) (show w.heap.size < _ by omega)).trans c0, (hb2.cell (p := ⟨w.heap.size, 1, none⟩) (show w.heap.size < _ by omega)).trans c1, by have := hb2.size; omega, Below.refl _ _⟩
  have HF2 := Lib.hid (HF.out.below hb2)
  have HD2 := Lib.hid (HD.out.below hb2)
  have HB2 := Lib.hid (HB1.out.trans (hb2.mono (by omega)))
  have hz2 := HB2.out.size
  clear c0 c1 hb2 HF HD HL
  go_wp2_with (go_at_call 28; refine (HM.out _).mono ?_; rintro e w' ⟨rfl, rfl⟩)
  go_loopw [6, 7, 21] (fun hv x i wr => ∃ (k m : Nat) (z : Int), k ≤ s.size ∧ m ≤ k ∧ i = .int .i64 (k : Int) ∧ hv = .int .i64 (m : Int) ∧ x = .int .i64 z ∧ (-((5 ^ k : Nat) : Int) ≤ z ∧ z ≤ ((5 ^ k : Nat) : Int)) ∧ Hid (mixGo (s.data.toList.drop k) (m : Int) = true) ∧ Hid (wgG fs ds (s.data.toList.drop k) m z = G) ∧ BxAt w2 w.heap.size (.slice A fs.length a) (.slice A2 ds.length a2) wr) (fun _ _ i _ => s.size - (intOf i).toNat)
  case atStart => exact ⟨0, 0, 1, Nat.zero_le _, Nat.le_refl _, rfl, rfl, rfl, by simp, HM0, HG0, HX2.out⟩
  case round =>
    obtain ⟨k, m, z, hk, hmk, rfl, rfl, rfl, hz, HMK, HGK, hbx⟩ := hrel
    clear HM0 HG0 HX2
    by_cases hlt : k < s.size
    · have hzb := p5_bd (k := k) (by omega)
      have hz5 : -244140625 ≤ z ∧ z ≤ 244140625 := by omega
      have HM1 := HMK.out
      have HG1 := HGK.out
      rw [drop_at s k hlt] at HM1 HG1
      obtain ⟨q1, q2, m', q3, q4, q5⟩ := wg_step (fs := fs) (ds := ds) (x := z) HM1
      rw [q5] at HG1
      have hks := kStep_bd s[k]
      have HRI : Hid (∀ w, Calls Try.prog 76 #[.int .u8 (s[k].toNat : Int)] w fun e w' => e = .returned (.int .i64 (kStep s[k])) ∧ w = w') := Lib.hid fun w => by
        rw [← rise_step _ q1]
        exact rise_any _ w
      have hcc : s[k] = 85 ∨ s[k] = 70 ∨ (s[k] = 68 ∧ 1 ≤ m) := by
        have q1' := q1
        unfold isK at q1'
        simp only [Bool.or_eq_true, beq_iff_eq] at q1'
        rcases q1' with (e | e) | e
        · exact .inl e
        · exact .inr (.inr ⟨e, q2 e⟩)
        · exact .inr (.inl e)
      have HWG : Hid (∀ W, Below w2.heap.size w2 W → Calls Try.prog 87 #[.agg #[.slice A fs.length a, .slice A2 ds.length a2], .int .u8 (s[k].toNat : Int), .int .i64 (m : Int)] W (Ret W (.tuple #[.int .i64 (wgX fs ds s[k] m), .bool (wgY fs ds s[k] m)]))) := Lib.hid fun W hb => weigh_any _ _ fs ds s[k] m W (HF2.out.below hb) (HD2.out.below hb) (by omega) (by omega) hcc (by omega)
      have hxb := HXB.out s[k] m
      have HP : Hid (-((5 ^ (k + 1) : Nat) : Int) ≤ z * wgX fs ds s[k] m ∧ z * wgX fs ds s[k] m ≤ ((5 ^ (k + 1) : Nat) : Int)) := Lib.hid (w_bd hz hxb)
      have hzc := p5_bd (k := k + 1) (by omega)
      have hpb : -1220703125 ≤ z * wgX fs ds s[k] m ∧ z * wgX fs ds s[k] m ≤ 1220703125 := by
        have := mul_abs (A := 244140625) (B := 5) hz5 hxb
        omega
      have HQ3 := Lib.hid q3
      have HQ4 := Lib.hid q4
      have hm2 : (0 : Int) ≤ (m : Int) + kStep s[k] := by omega
      have k0 := hbx.c0
      have k1 := hbx.c1
      have HBX := Lib.hid hbx
      clear HM1 q1 q2 q3 q4 q5 hcc hzb hzc hz HMK HGK hbx
      rcases Bool.eq_false_or_eq_true (wgY fs ds s[k] m) with hy | hy
      · rw [hy] at HWG
        rw [hy, if_pos rfl] at HG1
        have HG2 := Lib.hid HG1
        clear hy HG1
        generalize wgX fs ds s[k] m = X at *
        generalize kStep s[k] = Y at *
        go_wp2_with fail
        go_region_held3 (fun W => W.cell? ⟨w.heap.size, 0, none⟩ = some (.slice A fs.length a) ∧ W.cell? ⟨w.heap.size, 1, none⟩ = some (.slice A2 ds.length a2) ∧ BxAt w2 w.heap.size (.slice A fs.length a) (.slice A2 ds.length a2) W) (first | exact ⟨HBX.out.drew.c0, HBX.out.drew.c1, HBX.out.drew⟩ | exact bxKept (by assumption) (by assumption)) (first | (go_at_call 87; refine (HWG.out _ ?_).mono ?_; exact bxBel (by assumption); rintro e w' ⟨rfl, hb'⟩))
        go_wp2_with (go_at_call 76; refine (HRI.out _).mono ?_; rintro e w' ⟨rfl, rfl⟩)
        go_roundw
        case rel => exact ⟨k + 1, m', z * X, by omega, by have := HQ3.out; omega, by go_num, by rw [HQ3.out], rfl, HP.out, HQ4, HG2, bxAll (by assumption)⟩
        case measure => simp [intOf]; omega
      · rw [hy] at HWG
        rw [hy] at HG1
        have HN := Lib.hid (HNO.out (by rw [← HG1]; rfl))
        clear hy HG1
        generalize wgX fs ds s[k] m = X at *
        generalize kStep s[k] = Y at *
        go_wp2_with fail
        go_region_held3 (fun W => W.cell? ⟨w.heap.size, 0, none⟩ = some (.slice A fs.length a) ∧ W.cell? ⟨w.heap.size, 1, none⟩ = some (.slice A2 ds.length a2) ∧ BxAt w2 w.heap.size (.slice A fs.length a) (.slice A2 ds.length a2) W) (first | exact ⟨HBX.out.drew.c0, HBX.out.drew.c1, HBX.out.drew⟩ | exact bxKept (by assumption) (by assumption)) (first | (go_at_call 87; refine (HWG.out _ ?_).mono ?_; exact bxBel (by assumption); rintro e w' ⟨rfl, hb'⟩))
        go_wp2
        go_ret2
        rw [HN.out.1, HN.out.2]
        exact ⟨rfl, HB2.out.trans ((bxBel (by assumption)).mono hz2)⟩
    · have hkk : k = s.size := by omega
      have HS : Hid (wgG fs ds (s.data.toList.drop k) m z = some z) := Lib.hid (by rw [List.drop_of_length_le (by simp; omega)]; rfl)
      have HY := Lib.hid (HYES.out z (by rw [← HGK.out, HS.out]))
      have HBX := Lib.hid hbx.below
      clear hbx hkk HGK HMK HS
      go_wp2
      go_ret2
      rw [HY.out.1, HY.out.2]
      exact ⟨rfl, HB2.out.trans (HBX.out.mono hz2)⟩
end Go.Proofs.Ytnmmgpmhpjjehaa
