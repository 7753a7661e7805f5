/- momentOf, MomentsOf of the program. -/
import Derived.Test.YtnmmgpmhpjjehaaGmIW
import Derived.Test.YtnmmgpmhpjjehaaKmI
import Derived.Test.YtnmmgpmhpjjehaaMomS
import Derived.Lib.MinMax
namespace Go.Proofs.Ytnmmgpmhpjjehaa
open Go.RowKit Go.Maps
set_option linter.unusedVariables false
abbrev fG (xs : List Int) : Nat → Int := fun i => xs.getD i 0
theorem wgW9 {fs ds : List Int} (h : lvB fs ds = true) : W9 moU (moF fs.length (fG fs)) (moD fs.length (fG ds)) := by
  obtain ⟨hn, hd, hf, hg⟩ := lvB_of h
  refine W9.mo (fun i hi => hf i hi) (fun i hi => ?_)
  have := hg i (by omega)
  show -5 ≤ ds.getD i 0 ∧ ds.getD i 0 ≤ 5
  omega
theorem weigh_clo (v u : Value) (fs ds : List Int) (h1 : 1 ≤ fs.length ∧ fs.length ≤ 6) (h2 : ds.length = fs.length) (j h : Nat) (w : World) (hj : j < 3) (hh : h ≤ 11) (hjh : 1 ≤ h + j) (hF : RInts w v fs) (hD : RInts w u ds) :
    Calls Try.prog 87 #[.agg #[v, u], .int .u8 ((akC j).toNat : Int), .int .i64 (h : Int)] w (AnsW moU (moF fs.length (fG fs)) (moD fs.length (fG ds)) j h w) := by
  have hc : akC j = 85 ∨ akC j = 70 ∨ (akC j = 68 ∧ 1 ≤ h) := by
    rcases three_cases hj with rfl | rfl | rfl
    · exact .inr (.inr ⟨rfl, by omega⟩)
    · exact .inr (.inl rfl)
    · exact .inl rfl
  refine (weigh_any v u fs ds (akC j) h w hF hD (by omega) (by omega) hc (by omega)).mono fun e w' ⟨he, hb⟩ => ⟨_, _, he, fun ho => ?_, fun ho => ?_, hb⟩
  · rcases three_cases hj with rfl | rfl | rfl
    · have h3 : 1 ≤ h ∧ h ≤ ds.length := by simpa [wgY, akC] using ho
      show (if 1 ≤ h ∧ h ≤ ds.length then ds.getD (h - 1) 0 else 0) = moD fs.length (fG ds) h
      unfold moD
      rw [h2]
    · show (if h < fs.length then fs.getD h 0 else 0) = moF fs.length (fG fs) h
      rfl
    · rfl
  · rcases three_cases hj with rfl | rfl | rfl
    · have h3 : ¬ (1 ≤ h ∧ h ≤ ds.length) := by
        have : decide (1 ≤ h ∧ h ≤ ds.length) = false := ho
        simpa using this
      show moD fs.length (fG ds) h = 0
      unfold moD
      rw [if_neg (by omega)]
    · have h3 : ¬ h < fs.length := by
        have : decide (h < fs.length) = false := ho
        simpa using this
      show moF fs.length (fG fs) h = 0
      unfold moF
      rw [if_neg h3]
    · cases ho
theorem momentsW (v u : Value) (fs ds : List Int) (N : Nat) (hN : N ≤ 12) (w : World) (hF : RInts w v fs) (hD : RInts w u ds) (hl : lvB fs ds = true) :
    Calls Try.prog 82 #[.int .i64 (N : Int), cloW v u] w fun e w' => ∃ x, e = .returned x ∧ IRow w' w.heap.size x (momL fs ds (N + 1)) ∧ Below w.heap.size w w' := by
  obtain ⟨hn, hd, hf, hg⟩ := lvB_of hl
  have := momentsByW moU (moF fs.length (fG fs)) (moD fs.length (fG ds)) (wgW9 hl) N hN v u w (Lib.hid fun j h wq h1 h2 h3 hb => weigh_clo v u fs ds hn hd j h wq h1 h2 h3 (hF.below hb) (hD.below hb))
  have e : fr (fun k => gm moU (moF fs.length (fG fs)) (moD fs.length (fG ds)) k 0) (N + 1) = momL fs ds (N + 1) := fr_congr fun k _ => gm_mo fs.length (fG fs) (fG ds) hn.1 k 0 (by omega)
  rw [e] at this
  exact this
theorem momL_get (fs ds : List Int) (N k : Nat) (h : k < N) : (momL fs ds N).getD k 0 = mo fs.length (fG fs) (fG ds) k 0 := fr_get _ _ _ h
set_option maxRecDepth 100000 in
set_option maxHeartbeats 1600000 in
theorem momentOf_ret (v u : Value) (fs ds : List Int) (N : Nat) (hN : N ≤ 12) (w : World) (hF : RInts w v fs) (hD : RInts w u ds) (hl : lvB fs ds = true) :
    Calls Try.prog 112 #[.agg #[v, u], .int .i64 (N : Int)] w (Ret w (.int .i64 (mo fs.length (fG fs) (fG ds) N 0))) := by
  obtain ⟨w1, hw1⟩ : ∃ w1, w1 = w.alloc (.cells #[v, u] 45) := ⟨_, rfl⟩
  have hb1 : Below w.heap.size w w1 := by rw [hw1]; exact (Below.refl _ _).alloc (Nat.le_refl _) _
  have hz1 : w.heap.size ≤ w1.heap.size := hb1.size
  have HM := Lib.hid (momentsW v u fs ds N hN w1 (hF.below hb1) (hD.below hb1) hl)
  have c0 : w1.cell? ⟨w.heap.size, 0, none⟩ = some v := by rw [hw1]; simp [go_sem]
  have c1 : w1.cell? ⟨w.heap.size, 1, none⟩ = some u := by rw [hw1]; simp [go_sem]
  have HL : Hid ((momL fs ds (N + 1)).length = N + 1) := Lib.hid (fr_length _ _)
  have HC := Lib.hid (momL_get fs ds (N + 1) N (by omega))
  have HW := Lib.hid hw1
  have HB1 := Lib.hid hb1
  obtain ⟨A, a, rfl⟩ := hF.shape
  obtain ⟨A2, a2, rfl⟩ := hD.shape
  clear hw1 hb1 hF hD
  generalize momL fs ds (N + 1) = L at *
  generalize mo fs.length (fG fs) (fG ds) N 0 = z at *
  go_enter Try.func112, Try.ntmps112
  go_wp2_with fail
  rw [← HW.out]
  go_wp2_with (go_at_call 82; refine HM.out.mono ?_; rintro e w2 ⟨x, rfl, hr, hb⟩; obtain ⟨g, c, rfl, hg1, hg2⟩ := hr.form' HL.out (by omega); have k0 := hr.cell (j := N) (by rw [HL.out]; omega); rw [HC.out] at k0; have HB := Lib.hid hb; clear hr hb hg1 hg2)
  go_ret
  exact ⟨rfl, HB1.out.trans (HB.out.mono hz1)⟩
theorem momOk_yes {fs ds : List Int} {n : Int} (h : momOk fs ds n = true) : lvB fs ds = true ∧ (1 ≤ n ∧ n ≤ 8) ∧ n ≤ 2 * (fs.length : Nat) := by
  unfold momOk at h
  rw [Bool.and_eq_true, Bool.and_eq_true, decide_eq_true_eq] at h
  exact ⟨h.1.1, inB_iff h.1.2, h.2⟩
theorem momOk_in (fs ds : List Int) (n : Int) : momOk fs ds n = (lvB fs ds && inB n 1 (min 8 (2 * (fs.length : Nat)))) := by
  unfold momOk inB
  rw [Bool.and_assoc, Bool.and_assoc]
  congr 2
  rw [Bool.eq_iff_iff, Bool.and_eq_true, decide_eq_true_eq, decide_eq_true_eq, decide_eq_true_eq]
  omega
set_option maxRecDepth 100000 in
set_option maxHeartbeats 1600000 in
theorem momentsOf_ret (v u : Value) (fs ds : List Int) (n : Int) (w : World) (hF : RInts w v fs) (hD : RInts w u ds) (h1 : fs.length ≤ 1048576) (h2 : ds.length ≤ 1048576) :
    Calls Try.prog 48 #[.agg #[v, u], .int .i64 n] w (IntsRet w (momOk fs ds n) (momV fs ds n)) := by
  obtain ⟨w1, hw1⟩ : ∃ w1, w1 = w.alloc (.cells #[v, u] 45) := ⟨_, rfl⟩
  have hb1 : Below w.heap.size w w1 := by rw [hw1]; exact (Below.refl _ _).alloc (Nat.le_refl _) _
  have hz1 : w1.heap.size = w.heap.size + 1 := by rw [hw1]; simp
  have HL := Lib.hid (isLevels_ret v u fs ds w1 (hF.below hb1) (hD.below hb1) h1 h2)
  have c0 : w1.cell? ⟨w.heap.size, 0, none⟩ = some v := by rw [hw1]; simp [go_sem]
  have c1 : w1.cell? ⟨w.heap.size, 1, none⟩ = some u := by rw [hw1]; simp [go_sem]
  have HF := Lib.hid (hF.below hb1)
  have HD := Lib.hid (hD.below hb1)
  have HW := Lib.hid hw1
  have HB1 := Lib.hid hb1
  have HO := Lib.hid (momOk_in fs ds n)
  obtain ⟨A, a, rfl⟩ := hF.shape
  obtain ⟨A2, a2, rfl⟩ := hD.shape
  clear hw1 hb1 hF hD
  rcases Bool.eq_false_or_eq_true (lvB fs ds) with hl | hl
  · have hln := (lvB_of hl).1
    rw [hl] at HL HO
    go_enter Try.func48, Try.ntmps48
    go_wp2_with fail
    rw [← HW.out]
    go_at_call 43
    refine HL.out.mono ?_
    rintro e w2 ⟨rfl, hb2⟩
    have e0 := (hb2.cell (p := ⟨w.heap.size, 0, none⟩) (show w.heap.size < _ by omega)).trans c0
    have e1 := (hb2.cell (p := ⟨w.heap.size, 1, none⟩) (show w.heap.size < _ by omega)).trans c1
    clear c0 c1
    have HI := Lib.hid (lit_within n 1 (min 8 (2 * (fs.length : Nat))) w2)
    have HB2 := Lib.hid (HB1.out.trans (hb2.mono (by omega)))
    have HF2 := Lib.hid (HF.out.below hb2)
    have HD2 := Lib.hid (HD.out.below hb2)
    have hz2 := HB2.out.size
    have hlt2 : w.heap.size < w2.heap.size := by have := hb2.size; omega
    clear HF HD hb2
    obtain ⟨w3, hw3⟩ : ∃ w3, w3 = w2.alloc (.cells #[.int .i64 n] 3) := ⟨_, rfl⟩
    have hb3 : Below w2.heap.size w2 w3 := by rw [hw3]; exact (Below.refl _ _).alloc (Nat.le_refl _) _
    have k0 := (hb3.cell (p := ⟨w.heap.size, 0, none⟩) hlt2).trans e0
    have k1 := (hb3.cell (p := ⟨w.heap.size, 1, none⟩) hlt2).trans e1
    rw [← hw3] at HI
    have HW3 := Lib.hid hw3
    clear hw3
    rcases Bool.eq_false_or_eq_true (inB n 1 (min 8 (2 * (fs.length : Nat)))) with hi | hi
    · have e1' : momOk fs ds n = true := by rw [HO.out, hi]; rfl
      have hy := (momOk_yes e1').2
      obtain ⟨N, rfl⟩ : ∃ N : Nat, n = (N : Int) + 1 := ⟨(n - 1).toNat, by omega⟩
      have HV : Hid (momL fs ds (N + 1) = momV fs ds ((N : Int) + 1)) := Lib.hid (by
        unfold momV
        rw [if_pos e1', show ((N : Int) + 1).toNat = N + 1 by omega])
      have HM := Lib.hid (momentsW _ _ fs ds N (by omega) w3 (HF2.out.below hb3) (HD2.out.below hb3) hl)
      rw [HV.out] at HM
      rw [hi] at HI
      have E1 := Lib.hid e1'
      have HB3 := Lib.hid (HB2.out.trans (hb3.mono hz2))
      clear e1' hi hl HV HO HF2 HD2 hb3
      go_wp2_with fail
      rw [← HW3.out]
      go_at_call 68
      refine HI.out.mono ?_
      rintro e w' ⟨rfl, rfl⟩
      go_wp2_with (go_at_call 82; refine HM.out.mono ?_; rintro e w4 ⟨x, rfl, hr, hb⟩; obtain ⟨A4, a4, rfl⟩ := hr.shape)
      go_ret2
      rw [E1.out]
      exact ⟨_, rfl, hr.mono HB3.out.size, HB3.out.trans (hb.mono HB3.out.size)⟩
    · have e1' : momOk fs ds n = false := by rw [HO.out, hi]; rfl
      have e2' := momV_no e1'
      rw [hi] at HI
      have E1 := Lib.hid e1'
      have E2 := Lib.hid e2'
      have HB3 := Lib.hid (HB2.out.trans (hb3.mono hz2))
      clear e1' e2' hi hl HO HF2 HD2 hb3
      go_wp2_with fail
      rw [← HW3.out]
      go_at_call 68
      refine HI.out.mono ?_
      rintro e w' ⟨rfl, rfl⟩
      go_wp2
      go_ret2
      rw [E1.out, E2.out]
      exact ⟨_, rfl, IRow.nil _ _, HB3.out⟩
  · have e1 : momOk fs ds n = false := by rw [HO.out, hl]; rfl
    have e2 := momV_no e1
    rw [hl] at HL
    rw [e1, e2]
    clear e1 e2 hl HO
    go_enter Try.func48, Try.ntmps48
    go_wp2_with fail
    rw [← HW.out]
    go_at_call 43
    refine HL.out.mono ?_
    rintro e w2 ⟨rfl, hb2⟩
    go_wp2
    go_ret2
    exact ⟨_, rfl, IRow.nil _ _, HB1.out.trans (hb2.mono (by omega))⟩
theorem momV_len (fs ds : List Int) (n : Int) : (momV fs ds n).length ≤ 1048577 := by
  unfold momV momL momOk inB
  split
  · rename_i h
    simp only [Bool.and_eq_true, decide_eq_true_eq] at h
    rw [fr_length]
    omega
  · simp
end Go.Proofs.Ytnmmgpmhpjjehaa
