/- The program's IsDegrees (with slices.Min and Max), ExcessOf, IsForest, isTree. -/
import Derived.Test.YtgajknnfmnnfeaaInList
import Derived.Test.YtgajknnfmnnfeaaDeg
import Derived.Lib.MinMax
namespace Go.Proofs.Ytgajknnfmnnfeaa
open Go.RowKit
set_option linter.unusedVariables false
def mnT (xs : List Int) : Nat → Int
  | 0 => xs.getD 0 0
  | k + 1 => min (mnT xs k) (xs.getD (k + 1) 0)
def mxT (xs : List Int) : Nat → Int
  | 0 => xs.getD 0 0
  | k + 1 => max (mxT xs k) (xs.getD (k + 1) 0)
theorem mnT_iff (xs : List Int) (a : Int) : ∀ k, a ≤ mnT xs k ↔ ∀ j, j ≤ k → a ≤ xs.getD j 0
  | 0 => by
    rw [mnT]
    exact ⟨fun h j hj => by rw [show j = 0 by omega]; exact h, fun h => h 0 (Nat.le_refl _)⟩
  | k + 1 => by
    rw [mnT, Int.le_min, mnT_iff xs a k]
    exact ⟨fun h j hj => by
      by_cases e : j = k + 1
      · rw [e]; exact h.2
      · exact h.1 j (by omega), fun h => ⟨fun j hj => h j (by omega), h _ (Nat.le_refl _)⟩⟩
theorem mxT_iff (xs : List Int) (a : Int) : ∀ k, mxT xs k ≤ a ↔ ∀ j, j ≤ k → xs.getD j 0 ≤ a
  | 0 => by
    rw [mxT]
    exact ⟨fun h j hj => by rw [show j = 0 by omega]; exact h, fun h => h 0 (Nat.le_refl _)⟩
  | k + 1 => by
    rw [mxT, Int.max_le, mxT_iff xs a k]
    exact ⟨fun h j hj => by
      by_cases e : j = k + 1
      · rw [e]; exact h.2
      · exact h.1 j (by omega), fun h => ⟨fun j hj => h j (by omega), h _ (Nat.le_refl _)⟩⟩
theorem degB_iff (xs : List Int) : degB xs = true ↔ (1 ≤ xs.length ∧ xs.length ≤ 16) ∧ ∀ k, k < xs.length → 0 ≤ xs.getD k 0 ∧ xs.getD k 0 ≤ 16 := by
  refine ⟨degB_of, fun ⟨h1, h2⟩ => ?_⟩
  unfold degB allB inBd
  rw [Bool.and_eq_true, List.all_eq_true]
  refine ⟨by simp; omega, fun x hx => ?_⟩
  obtain ⟨i, hi, rfl⟩ := List.mem_iff_getElem.1 hx
  have := h2 i hi
  rw [List.getD_eq_getElem?_getD, List.getElem?_eq_getElem hi] at this
  simpa using this
theorem degB_mm (xs : List Int) (h : 1 ≤ xs.length ∧ xs.length ≤ 16) : degB xs = (decide (0 ≤ mnT xs (xs.length - 1)) && decide (mxT xs (xs.length - 1) ≤ 16)) := by
  rw [Bool.eq_iff_iff, Bool.and_eq_true, decide_eq_true_iff, decide_eq_true_iff, degB_iff, mnT_iff, mxT_iff]
  exact ⟨fun ⟨_, h2⟩ => ⟨fun j hj => (h2 j (by omega)).1, fun j hj => (h2 j (by omega)).2⟩, fun ⟨h1, h2⟩ => ⟨h, fun k hk => ⟨h1 k (by omega), h2 k (by omega)⟩⟩⟩
theorem degB_out (xs : List Int) (h : ¬ (1 ≤ xs.length ∧ xs.length ≤ 16)) : degB xs = false := by
  rw [Bool.eq_false_iff]
  intro e
  exact h (degB_of e).1
set_option maxHeartbeats 800000 in
theorem minS_any (v : Value) (xs : List Int) (w : World) (h : RInts w v xs) (h1 : 1 ≤ xs.length) (hl : xs.length ≤ 1048576) :
    Calls Try.prog 59 #[v] w fun e w' => e = .returned (.int .i64 (mnT xs (xs.length - 1))) ∧ w = w' := by
  obtain ⟨A0, cap, rfl⟩ := h.shape
  obtain ⟨g, o, cc, hv, hg, hcells⟩ := h.cells h1
  have hA : A0 = some ⟨g, o, none⟩ := by injection hv
  subst hA
  clear hv h
  have hc0 := hcells 0 h1
  rw [Nat.add_zero] at hc0
  have H := Lib.hid hcells
  have H0 : Hid (xs.getD 0 0 = mnT xs 0) := Lib.hid rfl
  have HS : Hid (∀ k, min (mnT xs k) (xs.getD (k + 1) 0) = mnT xs (k + 1)) := Lib.hid fun _ => rfl
  clear hcells
  rw [H0.out] at hc0
  generalize mnT xs = M at *
  go_enter Try.func59, Try.ntmps59
  go_wp2
  go_loop [3, 4] (fun m i => ∃ k : Nat, k + 1 ≤ xs.length ∧ i = .int .i64 ((k + 1 : Nat) : Int) ∧ m = .int .i64 (M k)) (fun _ i => xs.length - (intOf i).toNat)
  case atStart => exact ⟨0, h1, rfl, rfl⟩
  case round =>
    obtain ⟨k, hk, rfl, rfl⟩ := hrel
    by_cases hlt : k + 1 < xs.length
    · have e1 := H.out (k + 1) hlt
      have HS1 := Lib.hid (HS.out k)
      clear HS H0
      generalize xs.getD (k + 1) 0 = x at *
      generalize M k = m at *
      obtain ⟨n, hn⟩ : ∃ n, n = k + 1 := ⟨_, rfl⟩
      rw [← hn] at e1 hlt ⊢
      have HN := Lib.hid hn
      clear hn hk
      go_wp2
      go_round
      case rel => exact ⟨n, by omega, by go_num, by rw [HN.out, ← HS1.out]⟩
      case measure => first | (simp [intOf]; done) | (simp [intOf]; omega)
    · obtain ⟨n, hn⟩ : ∃ n, n = k + 1 := ⟨_, rfl⟩
      rw [← hn] at hlt ⊢
      have HN : Hid (xs.length - 1 = k) := Lib.hid (by omega)
      clear hn hk
      go_wp2
      go_ret
      rw [HN.out]
      exact ⟨rfl, rfl⟩
set_option maxHeartbeats 800000 in
theorem maxS_any (v : Value) (xs : List Int) (w : World) (h : RInts w v xs) (h1 : 1 ≤ xs.length) (hl : xs.length ≤ 1048576) :
    Calls Try.prog 60 #[v] w fun e w' => e = .returned (.int .i64 (mxT xs (xs.length - 1))) ∧ w = w' := by
  obtain ⟨A0, cap, rfl⟩ := h.shape
  obtain ⟨g, o, cc, hv, hg, hcells⟩ := h.cells h1
  have hA : A0 = some ⟨g, o, none⟩ := by injection hv
  subst hA
  clear hv h
  have hc0 := hcells 0 h1
  rw [Nat.add_zero] at hc0
  have H := Lib.hid hcells
  have H0 : Hid (xs.getD 0 0 = mxT xs 0) := Lib.hid rfl
  have HS : Hid (∀ k, max (mxT xs k) (xs.getD (k + 1) 0) = mxT xs (k + 1)) := Lib.hid fun _ => rfl
  clear hcells
  rw [H0.out] at hc0
  generalize mxT xs = M at *
  go_enter Try.func60, Try.ntmps60
  go_wp2
  go_loop [3, 4] (fun m i => ∃ k : Nat, k + 1 ≤ xs.length ∧ i = .int .i64 ((k + 1 : Nat) : Int) ∧ m = .int .i64 (M k)) (fun _ i => xs.length - (intOf i).toNat)
  case atStart => exact ⟨0, h1, rfl, rfl⟩
  case round =>
    obtain ⟨k, hk, rfl, rfl⟩ := hrel
    by_cases hlt : k + 1 < xs.length
    · have e1 := H.out (k + 1) hlt
      have HS1 := Lib.hid (HS.out k)
      clear HS H0
      generalize xs.getD (k + 1) 0 = x at *
      generalize M k = m at *
      obtain ⟨n, hn⟩ : ∃ n, n = k + 1 := ⟨_, rfl⟩
      rw [← hn] at e1 hlt ⊢
      have HN := Lib.hid hn
      clear hn hk
      go_wp2
      go_round
      case rel => exact ⟨n, by omega, by go_num, by rw [HN.out, ← HS1.out]⟩
      case measure => first | (simp [intOf]; done) | (simp [intOf]; omega)
    · obtain ⟨n, hn⟩ : ∃ n, n = k + 1 := ⟨_, rfl⟩
      rw [← hn] at hlt ⊢
      have HN : Hid (xs.length - 1 = k) := Lib.hid (by omega)
      clear hn hk
      go_wp2
      go_ret
      rw [HN.out]
      exact ⟨rfl, rfl⟩
set_option maxHeartbeats 800000 in
theorem isDegrees_any (v : Value) (xs : List Int) (w : World) (h : RInts w v xs) (hl : xs.length ≤ 1048576) :
    Calls Try.prog 21 #[v] w fun e w' => e = .returned (.bool (degB xs)) ∧ w = w' := by
  obtain ⟨A0, cap, rfl⟩ := h.shape
  by_cases hn : 1 ≤ xs.length ∧ xs.length ≤ 16
  · have HA : Hid (Calls Try.prog 59 #[.slice A0 xs.length cap] w fun e w' => e = .returned (.int .i64 (mnT xs (xs.length - 1))) ∧ w = w') := Lib.hid (minS_any _ xs w h hn.1 hl)
    have HB : Hid (Calls Try.prog 60 #[.slice A0 xs.length cap] w fun e w' => e = .returned (.int .i64 (mxT xs (xs.length - 1))) ∧ w = w') := Lib.hid (maxS_any _ xs w h hn.1 hl)
    rw [degB_mm xs hn]
    clear h
    generalize mnT xs (xs.length - 1) = m at *
    generalize mxT xs (xs.length - 1) = M at *
    have q1 : ((xs.length : Int) == 0) = false := by rw [beq_eq_false_iff_ne]; omega
    have q2 : ¬ (16 : Int) < (xs.length : Int) := by omega
    by_cases c1 : 0 ≤ m
    · rw [decide_eq_true c1, Bool.true_and]
      have HR : Hid (decide (M ≤ 16) = decide (M ≤ 16)) := Lib.hid rfl
      go_enter Try.func21, Try.ntmps21
      go_wp2_with (first | (go_at_call 59; refine HA.out.mono ?_; rintro e w' ⟨rfl, rfl⟩) | (go_at_call 60; refine HB.out.mono ?_; rintro e w' ⟨rfl, rfl⟩))
      go_ret
      exact ⟨rfl, rfl⟩
    · rw [decide_eq_false c1, Bool.false_and]
      go_enter Try.func21, Try.ntmps21
      go_wp2_with (go_at_call 59; refine HA.out.mono ?_; rintro e w' ⟨rfl, rfl⟩)
      go_ret
      exact ⟨rfl, rfl⟩
  · rw [degB_out xs hn]
    clear h
    by_cases c1 : xs.length = 0
    · rw [c1]
      go_enter Try.func21, Try.ntmps21
      go_wp2
      go_ret
      exact ⟨rfl, rfl⟩
    · have q2 : (16 : Int) < (xs.length : Int) := by omega
      clear hn
      go_enter Try.func21, Try.ntmps21
      go_wp2
      go_ret
      exact ⟨rfl, rfl⟩
theorem isDegrees_ret (v : Value) (xs : List Int) (w : World) (h : RInts w v xs) (hl : xs.length ≤ 1048576) :
    Calls Try.prog 21 #[v] w (Ret w (.bool (degB xs))) :=
  (isDegrees_any v xs w h hl).mono fun e w' ⟨h1, h2⟩ => ⟨h1, by rw [← h2]; exact Below.refl _ _⟩
set_option maxHeartbeats 800000 in
theorem excessOf_any (v : Value) (xs : List Int) (w : World) (h : RInts w v xs) (hl : xs.length ≤ 1048576) :
    Calls Try.prog 24 #[v] w fun e w' => e = .returned (.tuple #[.int .i64 (excV xs), .bool (degB xs)]) ∧ w = w' := by
  obtain ⟨A0, cap, rfl⟩ := h.shape
  have HG : Hid (Calls Try.prog 21 #[.slice A0 xs.length cap] w fun e w' => e = .returned (.bool (degB xs)) ∧ w = w') := Lib.hid (isDegrees_any _ xs w h hl)
  have H := Lib.hid h
  clear h
  rcases Bool.eq_false_or_eq_true (degB xs) with hd | hd
  · have hn := (degB_of hd).1
    have HD := Lib.hid hd
    unfold excV
    rw [hd, if_pos rfl]
    rw [hd] at HG
    clear hd
    go_enter Try.func24, Try.ntmps24
    go_wp2_with (go_at_call 21; refine HG.out.mono ?_; rintro e w' ⟨rfl, rfl⟩)
    go_loop [4, 6, 14] (fun r d i => ∃ k : Nat, k ≤ xs.length ∧ i = .int .i64 (k : Int) ∧ ∃ S : Int, r = .int .i64 ((xs.length : Int) - S) ∧ S = sumT xs k) (fun _ _ i => xs.length - (intOf i).toNat)
    case atStart => exact ⟨0, by omega, rfl, 0, by go_num, (sumT_0 xs).symm⟩
    case round =>
      obtain ⟨k, hk, rfl, S, rfl, hS⟩ := hrel
      have hS1 := sumT_bd HD.out k hk
      rw [← hS] at hS1
      by_cases hlt : k < xs.length
      · obtain ⟨g, o, cc, hv, hg, hcells⟩ := H.out.cells (by omega)
        have hA : A0 = some ⟨g, o, none⟩ := by injection hv
        subst hA
        clear hv
        have e1 := hcells k hlt
        clear hcells
        have hx := (degB_of HD.out).2 k hlt
        have HS := Lib.hid (sumT_succ xs k hlt)
        rw [← hS] at HS
        generalize xs.getD k 0 = x at *
        clear hS
        go_wp2
        go_round
        case rel => exact ⟨k + 1, by omega, by go_num, S + x, by go_num, HS.out.symm⟩
        case measure => first | (simp [intOf]; done) | (simp [intOf]; omega)
      · have hk2 : k = xs.length := by omega
        have HE : Hid ((xs.length : Int) - S = exc xs) := by unfold Hid exc; rw [hS, hk2]
        clear hS
        go_wp2
        go_ret2
        rw [HE.out]
        exact ⟨rfl, rfl⟩
  · unfold excV
    rw [hd, if_neg (by simp)]
    rw [hd] at HG
    clear hd
    go_enter Try.func24, Try.ntmps24
    go_wp2_with (go_at_call 21; refine HG.out.mono ?_; rintro e w' ⟨rfl, rfl⟩)
    go_ret2
    exact ⟨rfl, rfl⟩
theorem excessOf_ret (v : Value) (xs : List Int) (w : World) (h : RInts w v xs) (hl : xs.length ≤ 1048576) :
    Calls Try.prog 24 #[v] w (Ret w (.tuple #[.int .i64 (excV xs), .bool (degB xs)])) :=
  (excessOf_any v xs w h hl).mono fun e w' ⟨h1, h2⟩ => ⟨h1, by rw [← h2]; exact Below.refl _ _⟩
set_option maxHeartbeats 1600000 in
theorem isForest_any (v : Value) (xs : List Int) (w : World) (h : RInts w v xs) (hl : xs.length ≤ 1048576) :
    Calls Try.prog 26 #[v] w fun e w' => e = .returned (.tuple #[.bool (forV xs), .bool (degB xs)]) ∧ w = w' := by
  obtain ⟨A0, cap, rfl⟩ := h.shape
  have HX : Hid (Calls Try.prog 24 #[.slice A0 xs.length cap] w fun e w' => e = .returned (.tuple #[.int .i64 (excV xs), .bool (degB xs)]) ∧ w = w') := Lib.hid (excessOf_any _ xs w h hl)
  have H := Lib.hid h
  clear h
  rcases Bool.eq_false_or_eq_true (degB xs) with hd | hd
  · have hn := (degB_of hd).1
    have HD := Lib.hid hd
    have hb := sumT_bd hd xs.length (Nat.le_refl _)
    have hbd : -240 ≤ exc xs ∧ exc xs ≤ 16 := by unfold exc; omega
    have HLOW := Lib.hid (forB_low (xs := xs))
    have HNO := Lib.hid (fun k => forB_no (xs := xs) (k := k))
    have HYES := Lib.hid (forB_yes (xs := xs))
    have HST := Lib.hid (fun k => upB_step (xs := xs) (r := exc xs) (k := k))
    have H0 : Hid (upB xs (exc xs) 0 = true) := Lib.hid rfl
    unfold forV
    rw [hd, Bool.true_and]
    unfold excV at HX
    rw [hd, if_pos rfl] at HX
    clear hd hb
    generalize exc xs = r at *
    generalize forB xs = R at *
    go_enter Try.func26, Try.ntmps26
    go_wp2_with (go_at_call 24; refine HX.out.mono ?_; rintro e w' ⟨rfl, rfl⟩)
    go_loop [6, 8, 19] (fun t d i => ∃ k : Nat, k ≤ xs.length ∧ i = .int .i64 (k : Int) ∧ ∃ T : Int, t = .int .i64 T ∧ T = r + sumT xs k - (k : Int) ∧ Hid ((k = 0 ∨ 1 ≤ r) ∧ upB xs r (k - 1) = true)) (fun _ _ i => xs.length - (intOf i).toNat)
    case atStart => exact ⟨0, by omega, rfl, r, rfl, by rw [sumT_0]; omega, Lib.hid ⟨.inl rfl, H0.out⟩⟩
    case round =>
      obtain ⟨k, hk, rfl, T, rfl, hT, HU⟩ := hrel
      have hT1 := sumT_bd HD.out k hk
      have hT2 : -256 ≤ T ∧ T ≤ 272 := by omega
      by_cases hlt : k < xs.length
      · obtain ⟨g, o, cc, hv, hg, hcells⟩ := H.out.cells (by omega)
        have hA : A0 = some ⟨g, o, none⟩ := by injection hv
        subst hA
        clear hv
        have e1 := hcells k hlt
        clear hcells
        have hx := (degB_of HD.out).2 k hlt
        have HS := Lib.hid (sumT_succ xs k hlt)
        by_cases c1 : T < 1
        · have HF : Hid (R = false) := Lib.hid (by
            cases k with
            | zero => rw [sumT_0] at hT; exact HLOW.out (by omega)
            | succ k => exact HNO.out k (by omega) hlt)
          clear HNO HST HYES HLOW hT hT1 HS
          generalize xs.getD k 0 = x at *
          go_wp2
          go_ret2
          rw [HF.out]
          exact ⟨rfl, rfl⟩
        · have HU2 : Hid ((k + 1 = 0 ∨ 1 ≤ r) ∧ upB xs r (k + 1 - 1) = true) := Lib.hid (by
            cases k with
            | zero => rw [sumT_0] at hT; exact ⟨.inr (by omega), H0.out⟩
            | succ k =>
              refine ⟨.inr (by have := HU.out.1; omega), HST.out k HU.out.2 (fun h => by omega)⟩)
          have HT3 : Hid (T + (xs.getD k 0 - 1) = r + sumT xs (k + 1) - ((k + 1 : Nat) : Int)) := by have := HS.out; unfold Hid; omega
          clear HNO HST HYES HLOW hT hT1 HS HU
          generalize xs.getD k 0 = x at *
          go_wp2
          go_round
          case rel => exact ⟨k + 1, by omega, by go_num, T + (x - 1), by go_num, HT3.out, HU2⟩
          case measure => first | (simp [intOf]; done) | (simp [intOf]; omega)
      · have hk2 : k = xs.length := by omega
        have HE : Hid (R = true) := by
          have h1 := HU.out
          have h2 := HST.out (k - 1) h1.2 (fun h => by omega)
          rw [show k - 1 + 1 = xs.length by omega] at h2
          exact Lib.hid (HYES.out (by omega) h2)
        clear HNO HST HYES HLOW hT hT1
        go_wp2
        go_ret2
        rw [HE.out]
        exact ⟨rfl, rfl⟩
  · unfold forV
    rw [hd, Bool.false_and]
    unfold excV at HX
    rw [hd, if_neg (by simp)] at HX
    clear hd
    go_enter Try.func26, Try.ntmps26
    go_wp2_with (go_at_call 24; refine HX.out.mono ?_; rintro e w' ⟨rfl, rfl⟩)
    go_ret2
    exact ⟨rfl, rfl⟩
theorem isForest_ret (v : Value) (xs : List Int) (w : World) (h : RInts w v xs) (hl : xs.length ≤ 1048576) :
    Calls Try.prog 26 #[v] w (Ret w (.tuple #[.bool (forV xs), .bool (degB xs)])) :=
  (isForest_any v xs w h hl).mono fun e w' ⟨h1, h2⟩ => ⟨h1, by rw [← h2]; exact Below.refl _ _⟩
def treeB (xs : List Int) : Bool := forV xs && decide (exc xs = 1)
set_option maxHeartbeats 400000 in
theorem isTree_any (v : Value) (xs : List Int) (w : World) (h : RInts w v xs) (hl : xs.length ≤ 1048576) :
    Calls Try.prog 76 #[v] w fun e w' => e = .returned (.bool (treeB xs)) ∧ w = w' := by
  obtain ⟨A0, cap, rfl⟩ := h.shape
  have HX : Hid (Calls Try.prog 24 #[.slice A0 xs.length cap] w fun e w' => e = .returned (.tuple #[.int .i64 (excV xs), .bool (degB xs)]) ∧ w = w') := Lib.hid (excessOf_any _ xs w h hl)
  have HF : Hid (Calls Try.prog 26 #[.slice A0 xs.length cap] w fun e w' => e = .returned (.tuple #[.bool (forV xs), .bool (degB xs)]) ∧ w = w') := Lib.hid (isForest_any _ xs w h hl)
  clear h
  have HV : Hid (treeB xs = (forV xs && decide (excV xs = 1))) := Lib.hid (by
    unfold treeB excV forV
    rcases Bool.eq_false_or_eq_true (degB xs) with hd | hd <;> rw [hd] <;> simp)
  rw [HV.out]
  clear HV
  generalize degB xs = D at *
  generalize excV xs = X at *
  generalize forV xs = F at *
  rcases Bool.eq_false_or_eq_true F with hf | hf <;> subst hf
  · by_cases c : X = 1
    · subst c
      go_enter Try.func76, Try.ntmps76
      go_wp2_with (first | (go_at_call 24; refine HX.out.mono ?_; rintro e w' ⟨rfl, rfl⟩) | (go_at_call 26; refine HF.out.mono ?_; rintro e w' ⟨rfl, rfl⟩))
      go_ret
      exact ⟨rfl, rfl⟩
    · have c2 : (X == 1) = false := by rw [beq_eq_false_iff_ne]; exact c
      have HR : Hid ((true && decide (X = 1)) = false) := Lib.hid (by rw [decide_eq_false c]; rfl)
      rw [HR.out]
      go_enter Try.func76, Try.ntmps76
      go_wp2_with (first | (go_at_call 24; refine HX.out.mono ?_; rintro e w' ⟨rfl, rfl⟩) | (go_at_call 26; refine HF.out.mono ?_; rintro e w' ⟨rfl, rfl⟩))
      go_ret
      exact ⟨rfl, rfl⟩
  · rw [Bool.false_and]
    go_enter Try.func76, Try.ntmps76
    go_wp2_with (first | (go_at_call 24; refine HX.out.mono ?_; rintro e w' ⟨rfl, rfl⟩) | (go_at_call 26; refine HF.out.mono ?_; rintro e w' ⟨rfl, rfl⟩))
    go_ret
    exact ⟨rfl, rfl⟩
end Go.Proofs.Ytgajknnfmnnfeaa
