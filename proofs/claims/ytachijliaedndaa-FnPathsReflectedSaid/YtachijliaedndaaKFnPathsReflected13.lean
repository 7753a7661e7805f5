/- Pack 13 of what FnPathsReflected needs: PairS, ReMath4. -/
import Derived.Test.YtachijliaedndaaKFnPathsReflected12
import Derived.Deep.RegionLaw
/- The model's PairOf. -/
namespace Go.Proofs.Ytachijliaedndaa
open Go.RowKit
set_option linter.unusedVariables false
theorem low_meets (s : ByteArray) : ∀ k, k ≤ s.size → (minTo s k ≤ hAt s k) ∧ (minTo s k < 0 → ∃ j, j ≤ k ∧ hAt s j = -1)
  | 0, _ => ⟨by rw [hAt_zero]; simp [minTo], fun h => by simp [minTo] at h⟩
  | k + 1, h => by
    obtain ⟨h1, h2⟩ := low_meets s k (by omega)
    have h3 := hAt_succ s k (by omega)
    have h4 : stepI s[k] = 1 ∨ stepI s[k] = -1 := by unfold stepI stepZ; split <;> simp
    rw [minTo]
    split
    · refine ⟨Int.le_refl _, fun hlt => ?_⟩
      by_cases h5 : minTo s k < 0
      · obtain ⟨j, hj, e⟩ := h2 h5
        exact ⟨j, by omega, e⟩
      · exact ⟨k + 1, Nat.le_refl _, by omega⟩
    · refine ⟨by omega, fun hlt => ?_⟩
      obtain ⟨j, hj, e⟩ := h2 hlt
      exact ⟨j, by omega, e⟩
theorem faGo_meets (s : ByteArray) (h : Int) : ∀ n k, (∃ j, k ≤ j ∧ j < k + n ∧ hAt s j = h) → 0 ≤ faGo s h n k
  | 0, k, ⟨j, h1, h2, _⟩ => by omega
  | n + 1, k, ⟨j, h1, h2, h3⟩ => by
    rw [faGo]
    split
    · omega
    · exact faGo_meets s h n (k + 1) ⟨j, by rcases Nat.eq_or_lt_of_le h1 with e | e
                                            · subst e; contradiction
                                            · omega, by omega, h3⟩
theorem faZ_low (s : ByteArray) (h : minTo s s.size < 0) : 0 ≤ faZ s (-1) := by
  obtain ⟨j, hj, e⟩ := (low_meets s s.size (Nat.le_refl _)).2 h
  exact faGo_meets s (-1) _ _ ⟨j, Nat.zero_le _, by omega, e⟩
def prOk (s : ByteArray) : Bool := pathB s && decide (hAt s s.size = 0) && decide (minTo s s.size < 0)
def prV (s : ByteArray) : ByteArray := if prOk s = true then turnS (s.extract 0 (faZ s (-1)).toNat) ++ s.extract (faZ s (-1)).toNat s.size else ⟨#[]⟩
set_option maxHeartbeats 800000 in
theorem specPairOf_ret (s : ByteArray) (w : World) (hs : s.size ≤ maxLen) : Calls Try.prog 24 #[.string s] w (Ret w (.tuple #[.string (prV s), .bool (prOk s)])) := by
  rcases Bool.eq_false_or_eq_true (pathB s) with hp | hp
  case inr =>
    have e1 : prOk s = false := by simp [prOk, hp]
    have e2 : prV s = ⟨#[]⟩ := by rw [prV, e1]; rfl
    rw [e1, e2]
    clear e1 e2
    go_enter Try.func24, Try.ntmps24
    go_wp2_with (go_at_call 143; refine (paGood_any s _ hs).mono ?_; rintro e w' ⟨rfl, rfl⟩)
    go_ret2
    exact ⟨rfl, Below.refl _ _⟩
  have HP := Lib.hid hp
  have h40 := ((pathB_iff s).1 hp).1
  have HE : Hid (∀ w, Calls Try.prog 156 #[.string s] w (Ret w (.int .i64 (hAt s s.size)))) := Lib.hid fun w => paEnd_ret s w hp
  have HL : Hid (∀ w, Calls Try.prog 157 #[.string s] w (Ret w (.int .i64 (minTo s s.size)))) := Lib.hid fun w => paLow_ret s w hp
  have MF : Hid (∀ w, Calls Try.prog 145 #[.string s, .int .i64 (-1)] w (Ret w (.int .i64 (faZ s (-1))))) := Lib.hid fun w => miFirst_ret s (-1) w hp
  have hbd := faZ_bd s (-1)
  have hacc := Below.refl w.heap.size w
  by_cases h0 : hAt s s.size = 0
  case neg =>
    have e1 : prOk s = false := by simp [prOk, h0]
    have e2 : prV s = ⟨#[]⟩ := by rw [prV, e1]; rfl
    rw [e1, e2]
    clear e1 e2
    generalize hAt s s.size = x at *
    go_enter Try.func24, Try.ntmps24
    go_wp2_with (first | (go_at_call 143; refine (paGood_any s _ hs).mono ?_; rintro e w' ⟨rfl, rfl⟩) | (go_at_call 156; refine (HE.out _).mono ?_; rintro e w1 ⟨rfl, hb⟩; replace hacc := hacc.trans (hb.mono hacc.size); clear hb) | (go_at_call 157; refine (HL.out _).mono ?_; rintro e w1 ⟨rfl, hb⟩; replace hacc := hacc.trans (hb.mono hacc.size); clear hb))
    go_ret2
    exact ⟨rfl, hacc⟩
  by_cases h1 : minTo s s.size < 0
  case neg =>
    have e1 : prOk s = false := by simp [prOk, h1]
    have e2 : prV s = ⟨#[]⟩ := by rw [prV, e1]; rfl
    rw [e1, e2]
    clear e1 e2
    rw [h0] at HE
    generalize minTo s s.size = y at *
    go_enter Try.func24, Try.ntmps24
    go_wp2_with (first | (go_at_call 143; refine (paGood_any s _ hs).mono ?_; rintro e w' ⟨rfl, rfl⟩) | (go_at_call 156; refine (HE.out _).mono ?_; rintro e w1 ⟨rfl, hb⟩; replace hacc := hacc.trans (hb.mono hacc.size); clear hb) | (go_at_call 157; refine (HL.out _).mono ?_; rintro e w1 ⟨rfl, hb⟩; replace hacc := hacc.trans (hb.mono hacc.size); clear hb))
    go_ret2
    exact ⟨rfl, hacc⟩
  have h2 := faZ_low s h1
  have e1 : prOk s = true := by simp [prOk, hp, h0, h1]
  have e2 : prV s = turnS (s.extract 0 (faZ s (-1)).toNat) ++ s.extract (faZ s (-1)).toNat s.size := by rw [prV, if_pos e1]
  rw [e1, e2]
  clear e1 e2
  rw [h0] at HE
  obtain ⟨z, hz⟩ : ∃ z : Nat, faZ s (-1) = z := ⟨(faZ s (-1)).toNat, by omega⟩
  have hzs : z ≤ s.size := by omega
  rw [hz] at MF
  rw [hz, Int.toNat_natCast]
  have HT : Hid (∀ w, Calls Try.prog 146 #[.string (s.extract 0 z)] w (Ret w (.string (turnS (s.extract 0 z))))) := Lib.hid fun w => paTurn_ret _ w (by rw [ByteArray.size_extract]; omega)
  have j1 : (z : Int) ≤ (s.size : Int) := by omega
  have j2 : (0 : Int) ≤ (z : Int) := by omega
  have j3 : ¬ 9223372036854775807 < (turnS (s.extract 0 z)).size + (s.size - z) := by rw [turnS_size, ByteArray.size_extract]; omega
  clear hz hbd h2 h0
  have h1' : ¬ 0 ≤ minTo s s.size := by omega
  generalize minTo s s.size = y at *
  go_enter Try.func24, Try.ntmps24
  go_wp2_with (first | (go_at_call 143; refine (paGood_any s _ hs).mono ?_; rintro e w' ⟨rfl, rfl⟩) | (go_at_call 156; refine (HE.out _).mono ?_; rintro e w1 ⟨rfl, hb⟩; replace hacc := hacc.trans (hb.mono hacc.size); clear hb) | (go_at_call 157; refine (HL.out _).mono ?_; rintro e w1 ⟨rfl, hb⟩; replace hacc := hacc.trans (hb.mono hacc.size); clear hb) | (go_at_call 145; refine (MF.out _).mono ?_; rintro e w1 ⟨rfl, hb⟩; replace hacc := hacc.trans (hb.mono hacc.size); clear hb))
  have hacd := hacc.drew
  go_region_law (go_simp; go_at_call 146; refine (HT.out _).mono ?_; rintro e w2 ⟨rfl, hb2⟩)
  all_goals (try go_wp2_with fail)
  all_goals go_ret2
  all_goals exact ⟨rfl, hacd.trans (hb2.mono hacd.size)⟩
end Go.Proofs.Ytachijliaedndaa

/- The law on reflected paths: the touch text by its bytes; a pair is of closed paths that aren't good. -/
namespace Go.Proofs.Ytachijliaedndaa
open Go.RowKit
set_option linter.unusedVariables false
/-- how often a byte stands among the first k -/
def cntB (s : ByteArray) (c : Nat) : Nat → Nat
  | 0 => 0
  | k + 1 => cntB s c k + (if h : k < s.size then (if s[k].toNat = c then 1 else 0) else 0)
theorem cntB_le (s : ByteArray) (c : Nat) : ∀ k, cntB s c k ≤ k
  | 0 => Nat.le_refl _
  | k + 1 => by have := cntB_le s c k; rw [cntB]; split <;> (try split) <;> omega
theorem byte_at (L : List UInt8) (k : Nat) (h : k < (strOf L).size) (h2 : k < L.length) : (strOf L)[k] = L[k] := by
  show (strOf L).data[k] = L[k]
  simp [strOf]
theorem cntB_str (L : List UInt8) (c : UInt8) : ∀ k, k ≤ L.length → cntB (strOf L) c.toNat k = (L.take k).count c
  | 0, _ => by simp [cntB]
  | k + 1, h => by
    have hk : k < L.length := by omega
    have hs : k < (strOf L).size := by rw [strOf_size]; exact hk
    rw [cntB, dif_pos hs, cntB_str L c k (by omega), List.take_add_one, List.getElem?_eq_getElem hk, List.count_append]
    have hb : (strOf L)[k] = L[k] := byte_at L k hs hk
    have hd : ∀ x y : UInt8, x = y → (List.take k L).count c + (if x.toNat = c.toNat then 1 else 0) = (List.take k L).count c + (some y).toList.count c := fun x y e => by
      subst e
      simp only [Option.toList_some, List.count_singleton]
      by_cases e : x = c
      · subst e; simp
      · rw [if_neg (fun h => e (UInt8.toNat_inj.1 h)), if_neg (by simpa using e)]
    exact hd _ _ hb
theorem getD_at (L : List UInt8) (k : Nat) (h : k < L.length) : L.getD k 0 = L[k] := by
  rw [List.getD_eq_getElem?_getD, List.getElem?_eq_getElem h]; rfl
theorem ttx_facts {s : ByteArray} {lo hi : Int} (h : txOk s lo hi = true) (T : ByteArray) (e : T = txV s lo hi) : pathB s = true ∧ T.size ≤ 41 ∧
    (∀ j (h : j < T.size), T[j].toNat = 108 ∨ T[j].toNat = 104) ∧
    (∀ j (h : j + 1 < T.size), T[j + 1].toNat ≠ (T[j]'(by omega)).toNat) ∧
    cntB T 108 T.size ≤ timesTo s lo (s.size + 1) ∧ cntB T 104 T.size ≤ timesTo s hi (s.size + 1) ∧
    (0 < cntB T 108 T.size ↔ 0 < timesTo s lo (s.size + 1)) ∧ (0 < cntB T 104 T.size ↔ 0 < timesTo s hi (s.size + 1)) := by
  have h' := h
  unfold txOk at h'
  rw [Bool.and_eq_true, Bool.and_eq_true, decide_eq_true_iff] at h'
  obtain ⟨⟨hp, _⟩, hne⟩ := h'
  obtain ⟨a1, a2, a3, a4, a5, a6⟩ := tx_facts s hne (s.size + 1)
  have hz := txTo_size s lo hi (s.size + 1)
  have h40 := ((pathB_iff s).1 hp).1
  rw [show txV s lo hi = txTo s lo hi (s.size + 1) by rw [txV, if_pos h]] at e
  rw [tx_sg] at hz e
  subst e
  generalize cmpL (sgL s lo hi (s.size + 1)) = L at *
  have c1 := cntB_str L 108 L.length (Nat.le_refl _)
  have c2 := cntB_str L 104 L.length (Nat.le_refl _)
  rw [List.take_length] at c1 c2
  have e1 : (108 : UInt8).toNat = 108 := rfl
  have e2 : (104 : UInt8).toNat = 104 := rfl
  rw [e1] at c1
  rw [e2] at c2
  have hl : (strOf L).size = L.length := strOf_size L
  have q1 : cntB (strOf L) 108 (strOf L).size = L.count 108 := by rw [hl]; exact c1
  have q2 : cntB (strOf L) 104 (strOf L).size = L.count 104 := by rw [hl]; exact c2
  refine ⟨hp, by omega, fun j h => ?_, fun j h => ?_, ?_, ?_, ?_, ?_⟩
  · have hj : j < L.length := by omega
    have hd : ∀ x : UInt8, x = L[j] → x.toNat = 108 ∨ x.toNat = 104 := fun x hx => by
      subst hx
      rcases a2 L[j] (List.getElem_mem hj) with e | e <;> rw [e]
      · exact .inl rfl
      · exact .inr rfl
    exact hd _ (byte_at L j h hj)
  · have hj : j + 1 < L.length := by omega
    have := a1 j hj
    rw [getD_at L j (by omega), getD_at L (j + 1) hj] at this
    have hd : ∀ x y : UInt8, x = L[j + 1] → y = L[j] → x.toNat ≠ y.toNat := fun x y hx hy e => by
      subst hx hy
      exact this (UInt8.toNat_inj.1 e).symm
    exact hd _ _ (byte_at L (j + 1) h hj) (byte_at L j (by omega) (by omega))
  · rw [q1]; exact a3
  · rw [q2]; exact a4
  · rw [q1, List.count_pos_iff]; exact a5
  · rw [q2, List.count_pos_iff]; exact a6
theorem pr_is (s : ByteArray) : prOk s = (pathB s && closedV s && !goodV s) := by
  unfold prOk closedV goodV
  cases pathB s with
  | false => rfl
  | true =>
    simp only [Bool.true_and]
    by_cases h : hAt s s.size = 0
    · rw [h]
      by_cases h2 : minTo s s.size < 0
      · rw [decide_eq_true h2, decide_eq_false (show ¬ 0 ≤ minTo s s.size by omega)]; rfl
      · rw [decide_eq_false h2, decide_eq_true (show 0 ≤ minTo s s.size by omega)]; rfl
    · rw [decide_eq_false h, show (hAt s s.size == 0) = false by simpa using h]; rfl
end Go.Proofs.Ytachijliaedndaa
