/- The program's TreeOfPath. -/
import Derived.Test.YtgajknnfmnnfeaaTopI
namespace Go.Proofs.Ytgajknnfmnnfeaa
open Go.RowKit
set_option linter.unusedVariables false
def topOk (s : ByteArray) : Bool := goodV s && (closedV s && decide (s.size / 2 + 1 ≤ 16))
theorem minTo_le (s : ByteArray) : ∀ k, ∀ j, j ≤ k → minTo s k ≤ hAt s j
  | 0, j, h => by
    obtain rfl : j = 0 := by omega
    rw [minTo, hAt_zero]
    exact Int.le_refl _
  | k + 1, j, h => by
    rw [minTo]
    by_cases e : j = k + 1
    · subst e
      split <;> omega
    · have := minTo_le s k j (by omega)
      split <;> omega
theorem path_ud {s : ByteArray} (h : pathB s = true) : ∀ x ∈ s.data.toList, x = 85 ∨ x = 68 := fun x hx => by
  unfold pathB at h
  rw [Bool.and_eq_true, List.all_eq_true] at h
  have := h.2 x hx
  unfold isUD at this
  simpa using this
theorem top_parts {s : ByteArray} (h : topOk s = true) : pathB s = true ∧ (∀ i, i ≤ s.data.toList.length → 0 ≤ hL s.data.toList i) ∧ hL s.data.toList s.data.toList.length = 0 ∧ s.size / 2 + 1 ≤ 16 := by
  unfold topOk goodV closedV at h
  simp only [Bool.and_eq_true, decide_eq_true_iff, beq_iff_eq] at h
  obtain ⟨⟨h1, h2⟩, ⟨_, h3⟩, h4⟩ := h
  have hs : s.data.toList.length = s.size := by simp
  refine ⟨h1, fun i hi => ?_, by rw [hs]; exact h3, h4⟩
  have := minTo_le s s.size i (by omega)
  rw [hAt_hL] at this
  omega
theorem top_ex {s : ByteArray} (h : topOk s = true) : ∃ f : For, f.pb = s.data.toList := by
  obtain ⟨h1, h2, h3, _⟩ := top_parts h
  exact path_forest _ (path_ud h1) h2 h3
noncomputable def topV (s : ByteArray) : List Int := if h : topOk s = true then ((top_ex h).choose.cnt : Int) :: (top_ex h).choose.enc else []
theorem top_size {s : ByteArray} (h : topOk s = true) {f : For} (hf : f.pb = s.data.toList) : f.size ≤ 15 := by
  have h4 := (top_parts h).2.2.2
  have hl := congrArg List.length hf
  have hs : s.data.toList.length = s.size := by simp
  rw [f.pb_length] at hl
  omega
theorem topV_len (s : ByteArray) : (topV s).length ≤ 1048577 := by
  unfold topV
  split
  · rename_i h
    rw [List.length_cons, For.enc_length]
    have := top_size h (top_ex h).choose_spec
    omega
  · simp
theorem topV_no {s : ByteArray} (h : topOk s = false) : topV s = [] := by unfold topV; rw [dif_neg (by rw [h]; simp)]
set_option maxHeartbeats 800000 in
theorem treeOfPath_ret (s : ByteArray) (w : World) (hs : s.size ≤ maxLen) : Calls Try.prog 47 #[.string s] w (IntsRet w (topOk s) (topV s)) := by
  have HG : Hid (∀ w, Calls Try.prog 81 #[.string s] w (Ret w (.tuple #[.bool (goodV s), .bool (pathB s)]))) := Lib.hid fun w => isGood_ret s w hs
  have HC : Hid (∀ w, Calls Try.prog 82 #[.string s] w (Ret w (.tuple #[.bool (closedV s), .bool (pathB s)]))) := Lib.hid fun w => isClosed_ret s w hs
  rcases Bool.eq_false_or_eq_true (topOk s) with hv | hv
  · have h5 := hv
    unfold topOk at h5
    rw [Bool.and_eq_true, Bool.and_eq_true, decide_eq_true_iff] at h5
    obtain ⟨hg, hc, h4⟩ := h5
    have hf := (top_ex hv).choose_spec
    have e : topV s = ((top_ex hv).choose.cnt : Int) :: (top_ex hv).choose.enc := by unfold topV; rw [dif_pos hv]
    rw [e, hv]
    generalize (top_ex hv).choose = f at *
    have hfs := top_size hv hf
    have HT : Hid (∀ w, Calls Try.prog 83 #[.string s] w (IntsNew w ((f.cnt : Int) :: f.enc))) := Lib.hid fun w => by
      have := treeThrough_ret 16 f (by omega) (by omega) w
      rwa [hf, strOf_self] at this
    rw [hg] at HG
    rw [hc] at HC
    have q1 : ¬ (16 : Int) < (s.size : Int) / 2 + 1 := by omega
    have q2 : (s.size : Int).tdiv 2 = (s.size : Int) / 2 := Int.tdiv_eq_ediv_of_nonneg (by omega)
    clear hv hg hc h4 hf e hfs
    generalize pathB s = pb at *
    have HS := Lib.hid hs
    clear hs
    go_enter Try.func47, Try.ntmps47
    go_wp2_with (first | (go_at_call 81; refine (HG.out _).mono ?_; rintro e w1 ⟨rfl, hb1⟩) | (go_at_call 82; refine (HC.out _).mono ?_; rintro e w2 ⟨rfl, hb2⟩) | (go_at_call 83; refine (HT.out _).mono ?_; rintro e w3 ⟨v3, rfl, hr3, hb3⟩))
    go_ret2
    have hb12 := hb1.trans (hb2.mono hb1.size)
    exact ⟨_, rfl, hr3.mono hb12.size, hb12.trans (hb3.mono hb12.size)⟩
  · rw [topV_no hv, hv]
    unfold topOk at hv
    by_cases hg : goodV s = true
    · rw [hg, Bool.true_and] at hv
      rw [hg] at HG
      by_cases hc : closedV s = true
      · rw [hc, Bool.true_and, decide_eq_false_iff_not] at hv
        rw [hc] at HC
        have q1 : (16 : Int) < (s.size : Int) / 2 + 1 := by omega
        have q2 : (s.size : Int).tdiv 2 = (s.size : Int) / 2 := Int.tdiv_eq_ediv_of_nonneg (by omega)
        have q3 : (s.size : Int) ≤ 9223372036854775807 := by simp only [maxLen] at hs; omega
        clear hv hg hc
        generalize pathB s = pb at *
        have HS := Lib.hid hs
        clear hs
        go_enter Try.func47, Try.ntmps47
        go_wp2_with (first | (go_at_call 81; refine (HG.out _).mono ?_; rintro e w1 ⟨rfl, hb1⟩) | (go_at_call 82; refine (HC.out _).mono ?_; rintro e w2 ⟨rfl, hb2⟩))
        go_ret2
        exact ⟨_, rfl, IRow.nil _ _, hb1.trans (hb2.mono hb1.size)⟩
      · rw [Bool.not_eq_true] at hc
        rw [hc] at HC
        clear hv hg hc
        generalize pathB s = pb at *
        go_enter Try.func47, Try.ntmps47
        go_wp2_with (first | (go_at_call 81; refine (HG.out _).mono ?_; rintro e w1 ⟨rfl, hb1⟩) | (go_at_call 82; refine (HC.out _).mono ?_; rintro e w2 ⟨rfl, hb2⟩))
        go_ret2
        exact ⟨_, rfl, IRow.nil _ _, hb1.trans (hb2.mono hb1.size)⟩
    · rw [Bool.not_eq_true] at hg
      rw [hg] at HG
      clear hv hg
      generalize pathB s = pb at *
      generalize closedV s = cb at *
      go_enter Try.func47, Try.ntmps47
      go_wp2_with (first | (go_at_call 81; refine (HG.out _).mono ?_; rintro e w1 ⟨rfl, hb1⟩) | (go_at_call 82; refine (HC.out _).mono ?_; rintro e w2 ⟨rfl, hb2⟩))
      go_ret2
      exact ⟨_, rfl, IRow.nil _ _, hb1.trans (hb2.mono hb1.size)⟩
end Go.Proofs.Ytgajknnfmnnfeaa
