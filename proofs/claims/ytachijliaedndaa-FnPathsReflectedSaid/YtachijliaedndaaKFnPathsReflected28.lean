/- Pack 28 of what FnPathsReflected needs: DegI, WithI. -/
import Derived.Test.YtachijliaedndaaKFnPathsReflected27
import Derived.Lib.MinMax
import Derived.Deep.RegionLaw
import Derived.Handy
/- The program's IsDegrees (with slices.Min and Max), ExcessOf, IsForest, isTree. -/
namespace Go.Proofs.Ytachijliaedndaa
open Go.RowKit
set_option linter.unusedVariables false
def mnT (xs : List Int) : Nat → Int
  | 0 => xs.getD 0 0
  | k + 1 => min (mnT xs k) (xs.getD (k + 1) 0)
def mxT (xs : List Int) : Nat → Int
  | 0 => xs.getD 0 0
  | k + 1 => max (mxT xs k) (xs.getD (k + 1) 0)
theorem mnT_iff (xs : List Int) (a : Int) : ∀ k, a ≤ mnT xs k ↔ ∀ j, j ≤ k → a ≤ xs.getD j 0
  | 0 => by
    rw [mnT]
    exact ⟨fun h j hj => by rw [show j = 0 by omega]; exact h, fun h => h 0 (Nat.le_refl _)⟩
  | k + 1 => by
    rw [mnT, Int.le_min, mnT_iff xs a k]
    exact ⟨fun h j hj => by
      by_cases e : j = k + 1
      · rw [e]; exact h.2
      · exact h.1 j (by omega), fun h => ⟨fun j hj => h j (by omega), h _ (Nat.le_refl _)⟩⟩
theorem mxT_iff (xs : List Int) (a : Int) : ∀ k, mxT xs k ≤ a ↔ ∀ j, j ≤ k → xs.getD j 0 ≤ a
  | 0 => by
    rw [mxT]
    exact ⟨fun h j hj => by rw [show j = 0 by omega]; exact h, fun h => h 0 (Nat.le_refl _)⟩
  | k + 1 => by
    rw [mxT, Int.max_le, mxT_iff xs a k]
    exact ⟨fun h j hj => by
      by_cases e : j = k + 1
      · rw [e]; exact h.2
      · exact h.1 j (by omega), fun h => ⟨fun j hj => h j (by omega), h _ (Nat.le_refl _)⟩⟩
theorem degB_iff (xs : List Int) : degB xs = true ↔ (1 ≤ xs.length ∧ xs.length ≤ 16) ∧ ∀ k, k < xs.length → 0 ≤ xs.getD k 0 ∧ xs.getD k 0 ≤ 16 := by
  refine ⟨degB_of, fun ⟨h1, h2⟩ => ?_⟩
  unfold degB allB inBd
  rw [Bool.and_eq_true, List.all_eq_true]
  refine ⟨by simp; omega, fun x hx => ?_⟩
  obtain ⟨i, hi, rfl⟩ := List.mem_iff_getElem.1 hx
  have := h2 i hi
  rw [List.getD_eq_getElem?_getD, List.getElem?_eq_getElem hi] at this
  simpa using this
theorem degB_mm (xs : List Int) (h : 1 ≤ xs.length ∧ xs.length ≤ 16) : degB xs = (decide (0 ≤ mnT xs (xs.length - 1)) && decide (mxT xs (xs.length - 1) ≤ 16)) := by
  rw [Bool.eq_iff_iff, Bool.and_eq_true, decide_eq_true_iff, decide_eq_true_iff, degB_iff, mnT_iff, mxT_iff]
  exact ⟨fun ⟨_, h2⟩ => ⟨fun j hj => (h2 j (by omega)).1, fun j hj => (h2 j (by omega)).2⟩, fun ⟨h1, h2⟩ => ⟨h, fun k hk => ⟨h1 k (by omega), h2 k (by omega)⟩⟩⟩
theorem degB_out (xs : List Int) (h : ¬ (1 ≤ xs.length ∧ xs.length ≤ 16)) : degB xs = false := by
  rw [Bool.eq_false_iff]
  intro e
  exact h (degB_of e).1
set_option maxHeartbeats 800000 in
theorem minS_any (v : Value) (xs : List Int) (w : World) (h : RInts w v xs) (h1 : 1 ≤ xs.length) (hl : xs.length ≤ 1048576) :
    Calls Try.prog 245 #[v] w fun e w' => e = .returned (.int .i64 (mnT xs (xs.length - 1))) ∧ w = w' := by
  obtain ⟨A0, cap, rfl⟩ := h.shape
  obtain ⟨g, o, cc, hv, hg, hcells⟩ := h.cells h1
  have hA : A0 = some ⟨g, o, none⟩ := by injection hv
  subst hA
  clear hv h
  have hc0 := hcells 0 h1
  rw [Nat.add_zero] at hc0
  have H := Lib.hid hcells
  have H0 : Hid (xs.getD 0 0 = mnT xs 0) := Lib.hid rfl
  have HS : Hid (∀ k, min (mnT xs k) (xs.getD (k + 1) 0) = mnT xs (k + 1)) := Lib.hid fun _ => rfl
  clear hcells
  rw [H0.out] at hc0
  generalize mnT xs = M at *
  go_enter Try.func245, Try.ntmps245
  go_wp2
  go_loop [3, 4] (fun m i => ∃ k : Nat, k + 1 ≤ xs.length ∧ i = .int .i64 ((k + 1 : Nat) : Int) ∧ m = .int .i64 (M k)) (fun _ i => xs.length - (intOf i).toNat)
  case atStart => exact ⟨0, h1, rfl, rfl⟩
  case round =>
    obtain ⟨k, hk, rfl, rfl⟩ := hrel
    by_cases hlt : k + 1 < xs.length
    · have e1 := H.out (k + 1) hlt
      have HS1 := Lib.hid (HS.out k)
      clear HS H0
      generalize xs.getD (k + 1) 0 = x at *
      generalize M k = m at *
      obtain ⟨n, hn⟩ : ∃ n, n = k + 1 := ⟨_, rfl⟩
      rw [← hn] at e1 hlt ⊢
      have HN := Lib.hid hn
      clear hn hk
      go_wp2
      go_round
      case rel => exact ⟨n, by omega, by go_num, by rw [HN.out, ← HS1.out]⟩
      case measure => first | (simp [intOf]; done) | (simp [intOf]; omega)
    · obtain ⟨n, hn⟩ : ∃ n, n = k + 1 := ⟨_, rfl⟩
      rw [← hn] at hlt ⊢
      have HN : Hid (xs.length - 1 = k) := Lib.hid (by omega)
      clear hn hk
      go_wp2
      go_ret
      rw [HN.out]
      exact ⟨rfl, rfl⟩
set_option maxHeartbeats 800000 in
theorem maxS_any (v : Value) (xs : List Int) (w : World) (h : RInts w v xs) (h1 : 1 ≤ xs.length) (hl : xs.length ≤ 1048576) :
    Calls Try.prog 189 #[v] w fun e w' => e = .returned (.int .i64 (mxT xs (xs.length - 1))) ∧ w = w' := by
  obtain ⟨A0, cap, rfl⟩ := h.shape
  obtain ⟨g, o, cc, hv, hg, hcells⟩ := h.cells h1
  have hA : A0 = some ⟨g, o, none⟩ := by injection hv
  subst hA
  clear hv h
  have hc0 := hcells 0 h1
  rw [Nat.add_zero] at hc0
  have H := Lib.hid hcells
  have H0 : Hid (xs.getD 0 0 = mxT xs 0) := Lib.hid rfl
  have HS : Hid (∀ k, max (mxT xs k) (xs.getD (k + 1) 0) = mxT xs (k + 1)) := Lib.hid fun _ => rfl
  clear hcells
  rw [H0.out] at hc0
  generalize mxT xs = M at *
  go_enter Try.func189, Try.ntmps189
  go_wp2
  go_loop [3, 4] (fun m i => ∃ k : Nat, k + 1 ≤ xs.length ∧ i = .int .i64 ((k + 1 : Nat) : Int) ∧ m = .int .i64 (M k)) (fun _ i => xs.length - (intOf i).toNat)
  case atStart => exact ⟨0, h1, rfl, rfl⟩
  case round =>
    obtain ⟨k, hk, rfl, rfl⟩ := hrel
    by_cases hlt : k + 1 < xs.length
    · have e1 := H.out (k + 1) hlt
      have HS1 := Lib.hid (HS.out k)
      clear HS H0
      generalize xs.getD (k + 1) 0 = x at *
      generalize M k = m at *
      obtain ⟨n, hn⟩ : ∃ n, n = k + 1 := ⟨_, rfl⟩
      rw [← hn] at e1 hlt ⊢
      have HN := Lib.hid hn
      clear hn hk
      go_wp2
      go_round
      case rel => exact ⟨n, by omega, by go_num, by rw [HN.out, ← HS1.out]⟩
      case measure => first | (simp [intOf]; done) | (simp [intOf]; omega)
    · obtain ⟨n, hn⟩ : ∃ n, n = k + 1 := ⟨_, rfl⟩
      rw [← hn] at hlt ⊢
      have HN : Hid (xs.length - 1 = k) := Lib.hid (by omega)
      clear hn hk
      go_wp2
      go_ret
      rw [HN.out]
      exact ⟨rfl, rfl⟩
def treeB (xs : List Int) : Bool := forV xs && decide (exc xs = 1)
end Go.Proofs.Ytachijliaedndaa

/- The program's spans of heights: with. -/
namespace Go.Proofs.Ytachijliaedndaa
open Go.RowKit
set_option linter.unusedVariables false
theorem inB_of' {a lo hi : Int} (h : inB a lo hi = true) : lo ≤ a ∧ a ≤ hi := by
  unfold inB at h
  simpa only [Bool.and_eq_true, decide_eq_true_eq] using h
set_option maxHeartbeats 800000 in
theorem with_any (lo hi : Int) (v : Value) (xs : List Int) (w : World) (h : RInts w v xs) (h1 : 1 ≤ xs.length) (hl : xs.length ≤ 1048576) :
    Calls Try.prog 252 #[.agg #[.int .i64 lo, .int .i64 hi], v] w (Ret w (.agg #[.int .i64 (min lo (mnT xs (xs.length - 1))), .int .i64 (max hi (mxT xs (xs.length - 1)))])) := by
  obtain ⟨A0, cap, rfl⟩ := h.shape
  have HA : Hid (∀ W, Below w.heap.size w W → Calls Try.prog 245 #[.slice A0 xs.length cap] W fun e w' => e = .returned (.int .i64 (mnT xs (xs.length - 1))) ∧ W = w') := Lib.hid fun W hb => minS_any _ xs W (h.below hb) h1 hl
  have HB : Hid (∀ W, Below w.heap.size w W → Calls Try.prog 189 #[.slice A0 xs.length cap] W fun e w' => e = .returned (.int .i64 (mxT xs (xs.length - 1))) ∧ W = w') := Lib.hid fun W hb => maxS_any _ xs W (h.below hb) h1 hl
  have hb2 : Below w.heap.size w ((((w.alloc (.cells #[.int .i64 lo, .int .i64 hi] 132)).alloc (.cells #[.int .i64 0, .int .i64 0] 132))).drew) := (((Below.refl _ _).alloc (Nat.le_refl _) _).alloc (by simp) _).drew
  clear h
  generalize mnT xs (xs.length - 1) = m at *
  generalize mxT xs (xs.length - 1) = M at *
  go_enter Try.func252, Try.ntmps252
  go_wp2
  go_region_law (first
    | (go_simp; go_at_call 245; refine (HA.out _ hb2).mono ?_; rintro e w' ⟨rfl, rfl⟩)
    | (go_simp; go_at_call 189; refine (HB.out _ hb2).mono ?_; rintro e w' ⟨rfl, rfl⟩))
  all_goals (try go_wp2_with fail)
  all_goals go_returns
  all_goals exact ⟨rfl, (((Below.refl _ _).alloc (Nat.le_refl _) _).alloc (by simp) _).drew⟩
end Go.Proofs.Ytachijliaedndaa
