/- Pack 19 of what FnRotationsGood needs: DegI, RotI. -/
import Derived.Test.YtmfcknlpbliehabKFnRotationsGood18
import Derived.Lib.MinMax
import Derived.Laws.OwnMore
/- The program's IsDegrees (with slices.Min and Max), ExcessOf, IsForest, isTree. -/
namespace Go.Proofs.Ytmfcknlpbliehab
open Go.RowKit
set_option linter.unusedVariables false
def mnT (xs : List Int) : Nat → Int
  | 0 => xs.getD 0 0
  | k + 1 => min (mnT xs k) (xs.getD (k + 1) 0)
def mxT (xs : List Int) : Nat → Int
  | 0 => xs.getD 0 0
  | k + 1 => max (mxT xs k) (xs.getD (k + 1) 0)
theorem mnT_iff (xs : List Int) (a : Int) : ∀ k, a ≤ mnT xs k ↔ ∀ j, j ≤ k → a ≤ xs.getD j 0
  | 0 => by
    rw [mnT]
    exact ⟨fun h j hj => by rw [show j = 0 by omega]; exact h, fun h => h 0 (Nat.le_refl _)⟩
  | k + 1 => by
    rw [mnT, Int.le_min, mnT_iff xs a k]
    exact ⟨fun h j hj => by
      by_cases e : j = k + 1
      · rw [e]; exact h.2
      · exact h.1 j (by omega), fun h => ⟨fun j hj => h j (by omega), h _ (Nat.le_refl _)⟩⟩
theorem mxT_iff (xs : List Int) (a : Int) : ∀ k, mxT xs k ≤ a ↔ ∀ j, j ≤ k → xs.getD j 0 ≤ a
  | 0 => by
    rw [mxT]
    exact ⟨fun h j hj => by rw [show j = 0 by omega]; exact h, fun h => h 0 (Nat.le_refl _)⟩
  | k + 1 => by
    rw [mxT, Int.max_le, mxT_iff xs a k]
    exact ⟨fun h j hj => by
      by_cases e : j = k + 1
      · rw [e]; exact h.2
      · exact h.1 j (by omega), fun h => ⟨fun j hj => h j (by omega), h _ (Nat.le_refl _)⟩⟩
theorem degB_iff (xs : List Int) : degB xs = true ↔ (1 ≤ xs.length ∧ xs.length ≤ 16) ∧ ∀ k, k < xs.length → 0 ≤ xs.getD k 0 ∧ xs.getD k 0 ≤ 16 := by
  refine ⟨degB_of, fun ⟨h1, h2⟩ => ?_⟩
  unfold degB allB inBd
  rw [Bool.and_eq_true, List.all_eq_true]
  refine ⟨by simp; omega, fun x hx => ?_⟩
  obtain ⟨i, hi, rfl⟩ := List.mem_iff_getElem.1 hx
  have := h2 i hi
  rw [List.getD_eq_getElem?_getD, List.getElem?_eq_getElem hi] at this
  simpa using this
theorem degB_mm (xs : List Int) (h : 1 ≤ xs.length ∧ xs.length ≤ 16) : degB xs = (decide (0 ≤ mnT xs (xs.length - 1)) && decide (mxT xs (xs.length - 1) ≤ 16)) := by
  rw [Bool.eq_iff_iff, Bool.and_eq_true, decide_eq_true_iff, decide_eq_true_iff, degB_iff, mnT_iff, mxT_iff]
  exact ⟨fun ⟨_, h2⟩ => ⟨fun j hj => (h2 j (by omega)).1, fun j hj => (h2 j (by omega)).2⟩, fun ⟨h1, h2⟩ => ⟨h, fun k hk => ⟨h1 k (by omega), h2 k (by omega)⟩⟩⟩
theorem degB_out (xs : List Int) (h : ¬ (1 ≤ xs.length ∧ xs.length ≤ 16)) : degB xs = false := by
  rw [Bool.eq_false_iff]
  intro e
  exact h (degB_of e).1
set_option maxHeartbeats 800000 in
theorem minS_any (v : Value) (xs : List Int) (w : World) (h : RInts w v xs) (h1 : 1 ≤ xs.length) (hl : xs.length ≤ 1048576) :
    Calls Try.prog 37 #[v] w fun e w' => e = .returned (.int .i64 (mnT xs (xs.length - 1))) ∧ w = w' := by
  obtain ⟨A0, cap, rfl⟩ := h.shape
  obtain ⟨g, o, cc, hv, hg, hcells⟩ := h.cells h1
  have hA : A0 = some ⟨g, o, none⟩ := by injection hv
  subst hA
  clear hv h
  have hc0 := hcells 0 h1
  rw [Nat.add_zero] at hc0
  have H := Lib.hid hcells
  have H0 : Hid (xs.getD 0 0 = mnT xs 0) := Lib.hid rfl
  have HS : Hid (∀ k, min (mnT xs k) (xs.getD (k + 1) 0) = mnT xs (k + 1)) := Lib.hid fun _ => rfl
  clear hcells
  rw [H0.out] at hc0
  generalize mnT xs = M at *
  go_enter Try.func37, Try.ntmps37
  go_wp2
  go_loop [3, 4] (fun m i => ∃ k : Nat, k + 1 ≤ xs.length ∧ i = .int .i64 ((k + 1 : Nat) : Int) ∧ m = .int .i64 (M k)) (fun _ i => xs.length - (intOf i).toNat)
  case atStart => exact ⟨0, h1, rfl, rfl⟩
  case round =>
    obtain ⟨k, hk, rfl, rfl⟩ := hrel
    by_cases hlt : k + 1 < xs.length
    · have e1 := H.out (k + 1) hlt
      have HS1 := Lib.hid (HS.out k)
      clear HS H0
      generalize xs.getD (k + 1) 0 = x at *
      generalize M k = m at *
      obtain ⟨n, hn⟩ : ∃ n, n = k + 1 := ⟨_, rfl⟩
      rw [← hn] at e1 hlt ⊢
      have HN := Lib.hid hn
      clear hn hk
      go_wp2
      go_round
      case rel => exact ⟨n, by omega, by go_num, by rw [HN.out, ← HS1.out]⟩
      case measure => first | (simp [intOf]; done) | (simp [intOf]; omega)
    · obtain ⟨n, hn⟩ : ∃ n, n = k + 1 := ⟨_, rfl⟩
      rw [← hn] at hlt ⊢
      have HN : Hid (xs.length - 1 = k) := Lib.hid (by omega)
      clear hn hk
      go_wp2
      go_ret
      rw [HN.out]
      exact ⟨rfl, rfl⟩
set_option maxHeartbeats 800000 in
theorem maxS_any (v : Value) (xs : List Int) (w : World) (h : RInts w v xs) (h1 : 1 ≤ xs.length) (hl : xs.length ≤ 1048576) :
    Calls Try.prog 38 #[v] w fun e w' => e = .returned (.int .i64 (mxT xs (xs.length - 1))) ∧ w = w' := by
  obtain ⟨A0, cap, rfl⟩ := h.shape
  obtain ⟨g, o, cc, hv, hg, hcells⟩ := h.cells h1
  have hA : A0 = some ⟨g, o, none⟩ := by injection hv
  subst hA
  clear hv h
  have hc0 := hcells 0 h1
  rw [Nat.add_zero] at hc0
  have H := Lib.hid hcells
  have H0 : Hid (xs.getD 0 0 = mxT xs 0) := Lib.hid rfl
  have HS : Hid (∀ k, max (mxT xs k) (xs.getD (k + 1) 0) = mxT xs (k + 1)) := Lib.hid fun _ => rfl
  clear hcells
  rw [H0.out] at hc0
  generalize mxT xs = M at *
  go_enter Try.func38, Try.ntmps38
  go_wp2
  go_loop [3, 4] (fun m i => ∃ k : Nat, k + 1 ≤ xs.length ∧ i = .int .i64 ((k + 1 : Nat) : Int) ∧ m = .int .i64 (M k)) (fun _ i => xs.length - (intOf i).toNat)
  case atStart => exact ⟨0, h1, rfl, rfl⟩
  case round =>
    obtain ⟨k, hk, rfl, rfl⟩ := hrel
    by_cases hlt : k + 1 < xs.length
    · have e1 := H.out (k + 1) hlt
      have HS1 := Lib.hid (HS.out k)
      clear HS H0
      generalize xs.getD (k + 1) 0 = x at *
      generalize M k = m at *
      obtain ⟨n, hn⟩ : ∃ n, n = k + 1 := ⟨_, rfl⟩
      rw [← hn] at e1 hlt ⊢
      have HN := Lib.hid hn
      clear hn hk
      go_wp2
      go_round
      case rel => exact ⟨n, by omega, by go_num, by rw [HN.out, ← HS1.out]⟩
      case measure => first | (simp [intOf]; done) | (simp [intOf]; omega)
    · obtain ⟨n, hn⟩ : ∃ n, n = k + 1 := ⟨_, rfl⟩
      rw [← hn] at hlt ⊢
      have HN : Hid (xs.length - 1 = k) := Lib.hid (by omega)
      clear hn hk
      go_wp2
      go_ret
      rw [HN.out]
      exact ⟨rfl, rfl⟩
set_option maxHeartbeats 800000 in
theorem isDegrees_any (v : Value) (xs : List Int) (w : World) (h : RInts w v xs) (hl : xs.length ≤ 1048576) :
    Calls Try.prog 12 #[v] w fun e w' => e = .returned (.bool (degB xs)) ∧ w = w' := by
  obtain ⟨A0, cap, rfl⟩ := h.shape
  by_cases hn : 1 ≤ xs.length ∧ xs.length ≤ 16
  · have HA : Hid (Calls Try.prog 37 #[.slice A0 xs.length cap] w fun e w' => e = .returned (.int .i64 (mnT xs (xs.length - 1))) ∧ w = w') := Lib.hid (minS_any _ xs w h hn.1 hl)
    have HB : Hid (Calls Try.prog 38 #[.slice A0 xs.length cap] w fun e w' => e = .returned (.int .i64 (mxT xs (xs.length - 1))) ∧ w = w') := Lib.hid (maxS_any _ xs w h hn.1 hl)
    rw [degB_mm xs hn]
    clear h
    generalize mnT xs (xs.length - 1) = m at *
    generalize mxT xs (xs.length - 1) = M at *
    have q1 : ((xs.length : Int) == 0) = false := by rw [beq_eq_false_iff_ne]; omega
    have q2 : ¬ (16 : Int) < (xs.length : Int) := by omega
    by_cases c1 : 0 ≤ m
    · rw [decide_eq_true c1, Bool.true_and]
      have HR : Hid (decide (M ≤ 16) = decide (M ≤ 16)) := Lib.hid rfl
      go_enter Try.func12, Try.ntmps12
      go_wp2_with (first | (go_at_call 37; refine HA.out.mono ?_; rintro e w' ⟨rfl, rfl⟩) | (go_at_call 38; refine HB.out.mono ?_; rintro e w' ⟨rfl, rfl⟩))
      go_ret
      exact ⟨rfl, rfl⟩
    · rw [decide_eq_false c1, Bool.false_and]
      go_enter Try.func12, Try.ntmps12
      go_wp2_with (go_at_call 37; refine HA.out.mono ?_; rintro e w' ⟨rfl, rfl⟩)
      go_ret
      exact ⟨rfl, rfl⟩
  · rw [degB_out xs hn]
    clear h
    by_cases c1 : xs.length = 0
    · rw [c1]
      go_enter Try.func12, Try.ntmps12
      go_wp2
      go_ret
      exact ⟨rfl, rfl⟩
    · have q2 : (16 : Int) < (xs.length : Int) := by omega
      clear hn
      go_enter Try.func12, Try.ntmps12
      go_wp2
      go_ret
      exact ⟨rfl, rfl⟩
theorem isDegrees_ret (v : Value) (xs : List Int) (w : World) (h : RInts w v xs) (hl : xs.length ≤ 1048576) :
    Calls Try.prog 12 #[v] w (Ret w (.bool (degB xs))) :=
  (isDegrees_any v xs w h hl).mono fun e w' ⟨h1, h2⟩ => ⟨h1, by rw [← h2]; exact Below.refl _ _⟩
set_option maxHeartbeats 800000 in
theorem excessOf_any (v : Value) (xs : List Int) (w : World) (h : RInts w v xs) (hl : xs.length ≤ 1048576) :
    Calls Try.prog 9 #[v] w fun e w' => e = .returned (.tuple #[.int .i64 (excV xs), .bool (degB xs)]) ∧ w = w' := by
  obtain ⟨A0, cap, rfl⟩ := h.shape
  have HG : Hid (Calls Try.prog 12 #[.slice A0 xs.length cap] w fun e w' => e = .returned (.bool (degB xs)) ∧ w = w') := Lib.hid (isDegrees_any _ xs w h hl)
  have H := Lib.hid h
  clear h
  rcases Bool.eq_false_or_eq_true (degB xs) with hd | hd
  · have hn := (degB_of hd).1
    have HD := Lib.hid hd
    unfold excV
    rw [hd, if_pos rfl]
    rw [hd] at HG
    clear hd
    go_enter Try.func9, Try.ntmps9
    go_wp2_with (go_at_call 12; refine HG.out.mono ?_; rintro e w' ⟨rfl, rfl⟩)
    go_loop [4, 6, 14] (fun r d i => ∃ k : Nat, k ≤ xs.length ∧ i = .int .i64 (k : Int) ∧ ∃ S : Int, r = .int .i64 ((xs.length : Int) - S) ∧ S = sumT xs k) (fun _ _ i => xs.length - (intOf i).toNat)
    case atStart => exact ⟨0, by omega, rfl, 0, by go_num, (sumT_0 xs).symm⟩
    case round =>
      obtain ⟨k, hk, rfl, S, rfl, hS⟩ := hrel
      have hS1 := sumT_bd HD.out k hk
      rw [← hS] at hS1
      by_cases hlt : k < xs.length
      · obtain ⟨g, o, cc, hv, hg, hcells⟩ := H.out.cells (by omega)
        have hA : A0 = some ⟨g, o, none⟩ := by injection hv
        subst hA
        clear hv
        have e1 := hcells k hlt
        clear hcells
        have hx := (degB_of HD.out).2 k hlt
        have HS := Lib.hid (sumT_succ xs k hlt)
        rw [← hS] at HS
        generalize xs.getD k 0 = x at *
        clear hS
        go_wp2
        go_round
        case rel => exact ⟨k + 1, by omega, by go_num, S + x, by go_num, HS.out.symm⟩
        case measure => first | (simp [intOf]; done) | (simp [intOf]; omega)
      · have hk2 : k = xs.length := by omega
        have HE : Hid ((xs.length : Int) - S = exc xs) := by unfold Hid exc; rw [hS, hk2]
        clear hS
        go_wp2
        go_ret2
        rw [HE.out]
        exact ⟨rfl, rfl⟩
  · unfold excV
    rw [hd, if_neg (by simp)]
    rw [hd] at HG
    clear hd
    go_enter Try.func9, Try.ntmps9
    go_wp2_with (go_at_call 12; refine HG.out.mono ?_; rintro e w' ⟨rfl, rfl⟩)
    go_ret2
    exact ⟨rfl, rfl⟩
theorem excessOf_ret (v : Value) (xs : List Int) (w : World) (h : RInts w v xs) (hl : xs.length ≤ 1048576) :
    Calls Try.prog 9 #[v] w (Ret w (.tuple #[.int .i64 (excV xs), .bool (degB xs)])) :=
  (excessOf_any v xs w h hl).mono fun e w' ⟨h1, h2⟩ => ⟨h1, by rw [← h2]; exact Below.refl _ _⟩
set_option maxHeartbeats 1600000 in
theorem isForest_any (v : Value) (xs : List Int) (w : World) (h : RInts w v xs) (hl : xs.length ≤ 1048576) :
    Calls Try.prog 16 #[v] w fun e w' => e = .returned (.tuple #[.bool (forV xs), .bool (degB xs)]) ∧ w = w' := by
  obtain ⟨A0, cap, rfl⟩ := h.shape
  have HX : Hid (Calls Try.prog 9 #[.slice A0 xs.length cap] w fun e w' => e = .returned (.tuple #[.int .i64 (excV xs), .bool (degB xs)]) ∧ w = w') := Lib.hid (excessOf_any _ xs w h hl)
  have H := Lib.hid h
  clear h
  rcases Bool.eq_false_or_eq_true (degB xs) with hd | hd
  · have hn := (degB_of hd).1
    have HD := Lib.hid hd
    have hb := sumT_bd hd xs.length (Nat.le_refl _)
    have hbd : -240 ≤ exc xs ∧ exc xs ≤ 16 := by unfold exc; omega
    have HLOW := Lib.hid (forB_low (xs := xs))
    have HNO := Lib.hid (fun k => forB_no (xs := xs) (k := k))
    have HYES := Lib.hid (forB_yes (xs := xs))
    have HST := Lib.hid (fun k => upB_step (xs := xs) (r := exc xs) (k := k))
    have H0 : Hid (upB xs (exc xs) 0 = true) := Lib.hid rfl
    unfold forV
    rw [hd, Bool.true_and]
    unfold excV at HX
    rw [hd, if_pos rfl] at HX
    clear hd hb
    generalize exc xs = r at *
    generalize forB xs = R at *
    go_enter Try.func16, Try.ntmps16
    go_wp2_with (go_at_call 9; refine HX.out.mono ?_; rintro e w' ⟨rfl, rfl⟩)
    go_loop [6, 8, 19] (fun t d i => ∃ k : Nat, k ≤ xs.length ∧ i = .int .i64 (k : Int) ∧ ∃ T : Int, t = .int .i64 T ∧ T = r + sumT xs k - (k : Int) ∧ Hid ((k = 0 ∨ 1 ≤ r) ∧ upB xs r (k - 1) = true)) (fun _ _ i => xs.length - (intOf i).toNat)
    case atStart => exact ⟨0, by omega, rfl, r, rfl, by rw [sumT_0]; omega, Lib.hid ⟨.inl rfl, H0.out⟩⟩
    case round =>
      obtain ⟨k, hk, rfl, T, rfl, hT, HU⟩ := hrel
      have hT1 := sumT_bd HD.out k hk
      have hT2 : -256 ≤ T ∧ T ≤ 272 := by omega
      by_cases hlt : k < xs.length
      · obtain ⟨g, o, cc, hv, hg, hcells⟩ := H.out.cells (by omega)
        have hA : A0 = some ⟨g, o, none⟩ := by injection hv
        subst hA
        clear hv
        have e1 := hcells k hlt
        clear hcells
        have hx := (degB_of HD.out).2 k hlt
        have HS := Lib.hid (sumT_succ xs k hlt)
        by_cases c1 : T < 1
        · have HF : Hid (R = false) := Lib.hid (by
            cases k with
            | zero => rw [sumT_0] at hT; exact HLOW.out (by omega)
            | succ k => exact HNO.out k (by omega) hlt)
          clear HNO HST HYES HLOW hT hT1 HS
          generalize xs.getD k 0 = x at *
          go_wp2
          go_ret2
          rw [HF.out]
          exact ⟨rfl, rfl⟩
        · have HU2 : Hid ((k + 1 = 0 ∨ 1 ≤ r) ∧ upB xs r (k + 1 - 1) = true) := Lib.hid (by
            cases k with
            | zero => rw [sumT_0] at hT; exact ⟨.inr (by omega), H0.out⟩
            | succ k =>
              refine ⟨.inr (by have := HU.out.1; omega), HST.out k HU.out.2 (fun h => by omega)⟩)
          have HT3 : Hid (T + (xs.getD k 0 - 1) = r + sumT xs (k + 1) - ((k + 1 : Nat) : Int)) := by have := HS.out; unfold Hid; omega
          clear HNO HST HYES HLOW hT hT1 HS HU
          generalize xs.getD k 0 = x at *
          go_wp2
          go_round
          case rel => exact ⟨k + 1, by omega, by go_num, T + (x - 1), by go_num, HT3.out, HU2⟩
          case measure => first | (simp [intOf]; done) | (simp [intOf]; omega)
      · have hk2 : k = xs.length := by omega
        have HE : Hid (R = true) := by
          have h1 := HU.out
          have h2 := HST.out (k - 1) h1.2 (fun h => by omega)
          rw [show k - 1 + 1 = xs.length by omega] at h2
          exact Lib.hid (HYES.out (by omega) h2)
        clear HNO HST HYES HLOW hT hT1
        go_wp2
        go_ret2
        rw [HE.out]
        exact ⟨rfl, rfl⟩
  · unfold forV
    rw [hd, Bool.false_and]
    unfold excV at HX
    rw [hd, if_neg (by simp)] at HX
    clear hd
    go_enter Try.func16, Try.ntmps16
    go_wp2_with (go_at_call 9; refine HX.out.mono ?_; rintro e w' ⟨rfl, rfl⟩)
    go_ret2
    exact ⟨rfl, rfl⟩
theorem isForest_ret (v : Value) (xs : List Int) (w : World) (h : RInts w v xs) (hl : xs.length ≤ 1048576) :
    Calls Try.prog 16 #[v] w (Ret w (.tuple #[.bool (forV xs), .bool (degB xs)])) :=
  (isForest_any v xs w h hl).mono fun e w' ⟨h1, h2⟩ => ⟨h1, by rw [← h2]; exact Below.refl _ _⟩
def treeB (xs : List Int) : Bool := forV xs && decide (exc xs = 1)
end Go.Proofs.Ytmfcknlpbliehab

/- joinLists, the program's RotateList. -/
namespace Go.Proofs.Ytmfcknlpbliehab
open Go.RowKit
set_option maxRecDepth 100000 in
set_option linter.unusedVariables false
theorem run_append_none {P : Program} (w : World) (base : Nat) (t ty e : TypeId) (i : TypeInfo) (size : Nat) (ht : P.underlying t = some (.slice e)) (hi : P.info? e = some i)
    (v : Value) (n c : Nat) (xs : List Value) (hown : w.ownsRow base e size v n xs) :
    (Builtin.append_ #[t, t] ty #[v, .slice none 0 c]).run P w = .ok v w := by
  rcases hown.2 with ⟨rfl, rfl⟩ | ⟨g, cap, cur, rfl, _, _, hnc, _⟩
  · simp [Builtin.append_, run_underlying ht, sizeOf, typeInfo, hi, Builtin.lenOf, Builtin.firstCells]
  · simp [Builtin.append_, run_underlying ht, sizeOf, typeInfo, hi, Builtin.lenOf, Builtin.firstCells, hnc, storeCells]
set_option maxRecDepth 100000 in
/-- append of what a slice holds that is only read, perhaps nil -/
theorem run_extendR (w : World) (ty : TypeId) (B : Nat) (v u : Value) (xs ys : List Int) (hown : IRow w B v xs) (hr : RInts w u ys) (hlen : xs.length + ys.length ≤ 1099511627776) (hB : B ≤ w.heap.size) :
    ∃ v' w', (Builtin.append_ #[24, 24] ty #[v, u]).run Try.prog w = .ok v' w' ∧ IRow w' B v' (xs ++ ys) ∧ w.grownBy w' v.ownBlock := by
  obtain ⟨i0, hi, hz0, hz1, hz2⟩ := info_parts intInfo
  obtain ⟨A, c, rfl⟩ := hr.shape
  cases A with
  | none =>
    have h0 : ys.length = 0 := by
      rcases Nat.eq_zero_or_pos ys.length with h | h
      · exact h
      · obtain ⟨g, o, cc, hv, _⟩ := hr.cells h
        cases hv
    rw [h0, List.eq_nil_of_length_eq_zero h0, List.append_nil]
    exact ⟨v, w, run_append_none w B 24 ty 3 i0 1 Try.underlying24 hi v xs.length c _ hown, hown, ⟨rfl, rfl, rfl, Nat.le_refl _, fun _ _ _ => rfl⟩⟩
  | some ad =>
    obtain ⟨v', w', hr, h2, h3, h4, h5⟩ := run_append_own_at (P := Try.prog) w B 24 ty 3 i0 (.int .i64 0) 1 8 Try.underlying24 hi hz0 hz1 hz2 rfl (by decide) v xs.length (xs.map (Value.int .i64)) hown
      ad ys.length c (ys.map (Value.int .i64)) (by simp) (by
        intro j y hj
        rw [List.getElem?_map] at hj
        rcases Nat.lt_or_ge j ys.length with hlt | hge
        · obtain ⟨g, o, cc, hv, _, hc⟩ := hr.cells (by omega)
          injection hv with hv
          injection hv with hv
          subst hv
          have e := hc j hlt
          rw [List.getD_eq_getElem?_getD] at e
          rw [List.getElem?_eq_getElem hlt] at hj e
          injection hj with hj
          subst hj
          have e2 : (⟨g, o, none⟩ : Addr).add j = ⟨g, o + j, none⟩ := by unfold Addr.add; split <;> simp_all
          rw [e2]
          exact e
        · rw [List.getElem?_eq_none hge] at hj
          cases hj) (by
        intro y hy
        rw [List.mem_map] at hy
        obtain ⟨n, _, rfl⟩ := hy
        rfl) (by unfold maxLen; omega) (by omega) hB
    refine ⟨v', w', hr, ?_, h3⟩
    unfold IRow
    rw [List.length_append, List.map_append]
    exact h2
set_option maxRecDepth 100000 in
theorem wpList_extendR {ops : Array Oper} {rest : List Oper} {o : Oper} {a : Act} {Q : Exit → Act → World → Prop} {w : World} (s x : Operand) (hgd : o.guard = none)
    (ho : o.op = .call { callee := .builtin .append, args := #[s, x], argTypes := #[24, 24] })
    (B : Nat) (v u : Value) (xs ys : List Int) (hs : a.eval s = v) (hown : IRow w B v xs) (hx : a.eval x = u) (hr : RInts w u ys)
    (hlen : xs.length + ys.length ≤ 1099511627776) (hB : B ≤ w.heap.size)
    (h : ∀ v' w', IRow w' B v' (xs ++ ys) → w.grownBy w' v.ownBlock → wpList Try.prog ops Q rest (a.put o.dst v') w') :
    wpList Try.prog ops Q (o :: rest) a w := by
  refine wpList_plain hgd fun K hK => ?_
  obtain ⟨v', w', hr, h2, h3⟩ := run_extendR w o.type B v u xs ys hown hr hlen hB
  unfold Oper.wp execOp
  simp only [ho, resolve, invoke, builtin, Sem.run_bind, Sem.run_pure, Result.andThen_ok, List.map_toArray, List.map_cons, List.map_nil, hs, hx, hr]
  exact hK _ _ (h v' w' h2 h3)
/-- a slice of slices that are only read -/
structure LRows (w : World) (v : Value) (xss : List (List Int)) : Prop where
  shape : ∃ A c, v = .slice A xss.length c
  cells : 0 < xss.length → ∃ g o c, v = .slice (some ⟨g, o, none⟩) xss.length c ∧ g < w.heap.size ∧ ∀ j, j < xss.length → ∃ u, w.cell? ⟨g, o + j, none⟩ = some u ∧ RInts w u (xss.getD j [])
theorem LRows.below {w w' : World} {v : Value} {xss : List (List Int)} (h : LRows w v xss) (hb : Below w.heap.size w w') : LRows w' v xss :=
  ⟨h.shape, fun hx => by
    obtain ⟨g, o, c, hv, hg, hc⟩ := h.cells hx
    refine ⟨g, o, c, hv, Nat.lt_of_lt_of_le hg hb.size, fun j hj => ?_⟩
    obtain ⟨u, h1, h2⟩ := hc j hj
    exact ⟨u, (hb.cell (p := ⟨g, o + j, none⟩) hg).trans h1, h2.below hb⟩⟩
theorem flat_take (xss : List (List Int)) (k : Nat) (hk : k < xss.length) : (xss.take (k + 1)).flatten = (xss.take k).flatten ++ xss.getD k [] := by
  rw [List.take_succ_eq_append_getElem hk, List.flatten_append, List.getD_eq_getElem?_getD, List.getElem?_eq_getElem hk]
  simp
theorem flat_le (xss : List (List Int)) (k : Nat) : (xss.take k).flatten.length ≤ xss.flatten.length := by
  have h : xss.flatten = (xss.take k).flatten ++ (xss.drop k).flatten := by rw [← List.flatten_append, List.take_append_drop]
  rw [h, List.length_append]
  omega
set_option maxHeartbeats 800000 in
theorem joinLists_any (v : Value) (xss : List (List Int)) (w : World) (h : LRows w v xss) (hl : xss.length ≤ 1048576) (hs : xss.flatten.length ≤ 1048576) :
    Calls Try.prog 39 #[v] w (IntsNew w xss.flatten) := by
  obtain ⟨A0, cap, rfl⟩ := h.shape
  have H := Lib.hid h
  have HF := Lib.hid (flat_take xss)
  have HL := Lib.hid (fun k => Nat.le_trans (flat_le xss k) hs)
  clear h
  go_enter Try.func39, Try.ntmps39
  go_wp2
  go_loopw [3, 5, 8] (fun r p i wr => ∃ k : Nat, k ≤ xss.length ∧ i = .int .i64 (k : Int) ∧ IRow wr w.heap.size r (xss.take k).flatten ∧ Below w.heap.size w wr) (fun _ _ i _ => xss.length - (intOf i).toNat)
  case atStart => exact ⟨0, by omega, rfl, IRow.nil _ _, Below.refl _ _⟩
  case round =>
    obtain ⟨k, hk, rfl, hrow, hb⟩ := hrel
    by_cases hlt : k < xss.length
    · obtain ⟨g, o, cc, hv, hg, hcells⟩ := (H.out.below hb).cells (by omega)
      have hA : A0 = some ⟨g, o, none⟩ := by injection hv
      subst hA
      clear hv
      obtain ⟨u, e1, hu⟩ := hcells k hlt
      clear hcells
      obtain ⟨A1, c1, rfl⟩ := hu.shape
      have HU := Lib.hid hu
      have HF1 := Lib.hid (HF.out k hlt)
      have HL1 := HL.out (k + 1)
      have hsz := hb.size
      rw [HF1.out, List.length_append] at HL1
      clear hu HF HL
      generalize (xss.take k).flatten = R at *
      generalize xss.getD k [] = ys at *
      go_wp2_with (at_builtin; refine wpList_extendR (.tmp 12) (.tmp 13) rfl rfl w.heap.size _ _ R ys rfl hrow rfl HU.out (by omega) hsz ?_; intro v' w' hrow' hg')
      go_roundw
      case rel => exact ⟨k + 1, by omega, by go_num, by rw [HF1.out]; exact hrow', hb.grown hg' hsz (fun q hq => (hrow.blk q hq).1)⟩
      case measure => first | (simp [intOf]; done) | (simp [intOf]; omega)
    · have HK : Hid (xss.take k = xss) := Lib.hid (List.take_of_length_le (by omega))
      go_wp2
      go_ret
      rw [HK.out] at hrow
      exact ⟨_, rfl, hrow, hb⟩
theorem RInts.part {w : World} {g o c : Nat} {xs : List Int} (a n c2 : Nat) (hg : g < w.heap.size) (hcells : ∀ j, j < xs.length → w.cell? ⟨g, o + j, none⟩ = some (.int .i64 (xs.getD j 0)))
    (ys : List Int) (hy : ys = (xs.drop a).take n) (hn : a + n ≤ xs.length) (hc : n ≤ c2) (hm : c2 ≤ maxLen) : RInts w (.slice (some ⟨g, o + a, none⟩) n c2) ys := by
  have hl : ys.length = n := by rw [hy, List.length_take, List.length_drop]; omega
  refine ⟨⟨_, _, by rw [hl]⟩, fun A m c e => by injection e with e1 e2 e3; subst e2 e3; exact ⟨hc, hm⟩, fun h0 => ⟨g, o + a, c2, by rw [hl], hg, fun j hj => ?_⟩⟩
  rw [hl] at hj
  rw [hy, Nat.add_assoc, hcells (a + j) (by omega), List.getD_eq_getElem?_getD, List.getD_eq_getElem?_getD, List.getElem?_take, if_pos hj, List.getElem?_drop]
set_option maxHeartbeats 1600000 in
theorem rotateList_ret (v : Value) (xs : List Int) (k : Int) (w : World) (h : RInts w v xs) (hl : xs.length ≤ 1048576) :
    Calls Try.prog 15 #[v, .int .i64 k] w (IntsRet w (rotOk xs k) (rotV xs k)) := by
  obtain ⟨A, c, rfl⟩ := h.shape
  obtain ⟨hc, hm⟩ := h.room _ _ _ rfl
  have HG : Hid (Calls Try.prog 12 #[.slice A xs.length c] w fun e w' => e = .returned (.bool (degB xs)) ∧ w = w') := Lib.hid (isDegrees_any _ xs w h hl)
  rcases Bool.eq_false_or_eq_true (degB xs) with hd | hd
  · have hn := (degB_of hd).1
    rw [hd] at HG
    by_cases hk : 0 ≤ k ∧ k ≤ (xs.length : Int) - 1
    · have HI : Hid (inB k 0 ((xs.length : Int) - 1) = true) := Lib.hid (inB_yes hk)
      obtain ⟨j, rfl⟩ := Int.eq_ofNat_of_zero_le hk.1
      obtain ⟨g, o, rfl, hg, hcells⟩ := degB_cells h hd
      have hjl : j < xs.length := by omega
      have HJ : Hid (Calls Try.prog 39 #[.slice (some ⟨w.heap.size, 0, none⟩) 2 2] (w.alloc (.cells #[.slice (some ⟨g, o + j, none⟩) (xs.length - j) (c - j), .slice (some ⟨g, o, none⟩) j j] 24)).drew
          fun e w' => ∃ v, e = .returned v ∧ IRow w' w.heap.size v (rot xs j) ∧ Below w.heap.size w w') := Lib.hid (by
        generalize hw1 : (w.alloc (.cells #[.slice (some ⟨g, o + j, none⟩) (xs.length - j) (c - j), .slice (some ⟨g, o, none⟩) j j] 24)).drew = w1
        have hb : Below w.heap.size w w1 := by rw [← hw1]; exact ((Below.refl _ _).alloc (Nat.le_refl _) _).drew
        have h1 : w1.cell? ⟨w.heap.size, 0, none⟩ = some (.slice (some ⟨g, o + j, none⟩) (xs.length - j) (c - j)) := by rw [← hw1]; simp
        have h2 : w1.cell? ⟨w.heap.size, 1, none⟩ = some (.slice (some ⟨g, o, none⟩) j j) := by rw [← hw1]; simp
        have hs1 : w.heap.size < w1.heap.size := by rw [← hw1]; simp
        have hg1 := Nat.lt_of_lt_of_le hg hb.size
        have hc1' : ∀ i, i < xs.length → w1.cell? ⟨g, o + i, none⟩ = some (.int .i64 (xs.getD i 0)) := fun i hi => (hb.cell (p := ⟨g, o + i, none⟩) hg).trans (hcells i hi)
        have r := joinLists_any (.slice (some ⟨w.heap.size, 0, none⟩) 2 2) [xs.drop j, xs.take j] w1 ⟨⟨_, _, rfl⟩, fun _ => ⟨w.heap.size, 0, 2, rfl, hs1, fun i hi => by
          have hi' : i < 2 := hi
          match i, hi' with
          | 0, _ => exact ⟨_, h1, RInts.part (c := c) j (xs.length - j) (c - j) hg1 hc1' _ (by rw [List.getD_cons_zero, List.take_of_length_le (by rw [List.length_drop]; omega)]) (by omega) (by omega) (by omega)⟩
          | 1, _ => exact ⟨_, h2, RInts.part (c := c) (o := o) 0 j j hg1 hc1' _ rfl (by omega) (Nat.le_refl _) (by omega)⟩⟩⟩ (by simp) (by simp; omega)
        refine r.mono fun e w' h => ?_
        obtain ⟨v', he, hr, hb2⟩ := h
        exact ⟨v', he, by simpa [rot] using hr.mono hb.size, hb.trans (hb2.mono hb.size)⟩)
      have e1 : rotOk xs (j : Int) = true := by unfold rotOk; rw [hd, HI.out]; rfl
      have e2 : rotV xs (j : Int) = rot xs j := by unfold rotV; rw [e1]; rfl
      rw [e1, e2]
      have b0 : (j : Int) < (xs.length : Int) := by omega
      have b1 : (0 : Int) ≤ (j : Int) := by omega
      have b2 : (j : Int) ≤ (xs.length : Int) := by omega
      have b3 : (xs.length : Int) ≤ (c : Int) := by omega
      have b4 : (j : Int) ≤ (c : Int) := by omega
      have b5 : ¬ (c = j) := by omega
      clear h hcells e1 e2 hd
      go_enter Try.func15, Try.ntmps15
      go_wp2_with (go_at_call 12; refine HG.out.mono ?_; rintro e w' ⟨rfl, rfl⟩)
      go_region_law (go_simp; go_at_call 39; (try rw [if_neg b5]); refine HJ.out.mono ?_; rintro e w1 ⟨v1, rfl, hr1, hb1⟩)
      go_wp2_with fail
      go_ret2
      exact ⟨_, rfl, hr1, hb1⟩
    · have HI : Hid (inB k 0 ((xs.length : Int) - 1) = false) := Lib.hid (inB_no hk)
      have e1 : rotOk xs k = false := by unfold rotOk; rw [HI.out, Bool.and_false]
      have e2 : rotV xs k = [] := by unfold rotV; rw [e1]; rfl
      rw [e1, e2]
      clear h e1 e2 hd
      by_cases c1 : k < 0
      · go_enter Try.func15, Try.ntmps15
        go_wp2_with (go_at_call 12; refine HG.out.mono ?_; rintro e w' ⟨rfl, rfl⟩)
        go_ret2
        exact ⟨_, rfl, IRow.nil _ _, Below.refl _ _⟩
      · have c2 : (xs.length : Int) ≤ k := by omega
        clear hk
        go_enter Try.func15, Try.ntmps15
        go_wp2_with (go_at_call 12; refine HG.out.mono ?_; rintro e w' ⟨rfl, rfl⟩)
        go_ret2
        exact ⟨_, rfl, IRow.nil _ _, Below.refl _ _⟩
  · have e1 : rotOk xs k = false := by unfold rotOk; rw [hd, Bool.false_and]
    have e2 : rotV xs k = [] := by unfold rotV; rw [e1]; rfl
    rw [e1, e2]
    rw [hd] at HG
    clear h e1 e2 hd
    go_enter Try.func15, Try.ntmps15
    go_wp2_with (go_at_call 12; refine HG.out.mono ?_; rintro e w' ⟨rfl, rfl⟩)
    go_ret2
    exact ⟨_, rfl, IRow.nil _ _, Below.refl _ _⟩
end Go.Proofs.Ytmfcknlpbliehab
