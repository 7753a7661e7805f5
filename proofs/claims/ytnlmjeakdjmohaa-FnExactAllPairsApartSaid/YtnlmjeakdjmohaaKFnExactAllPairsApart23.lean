/- Pack 23 of what FnExactAllPairsApart needs: WthI, PlI. -/
import Derived.Test.YtnlmjeakdjmohaaKFnExactAllPairsApart22
/- The program's isWithin. -/
namespace Go.Proofs.Ytnlmjeakdjmohaa
open Go.RowKit
set_option linter.unusedVariables false
set_option maxHeartbeats 800000 in
theorem wth_any (v : Value) (xs : List Int) (lo hi : Int) (w : World) (h : RInts w v xs) (hl : xs.length ≤ 1048576) :
    Calls Try.prog 130 #[.int .i64 lo, .int .i64 hi, v] w fun e w' => e = .returned (.bool (allB xs lo hi)) ∧ w = w' := by
  obtain ⟨A0, cap, rfl⟩ := h.shape
  have H := Lib.hid h
  clear h
  go_enter Try.func130, Try.ntmps130
  go_wp2
  go_loop [11] (fun i => ∃ k : Nat, k ≤ xs.length ∧ i = .int .i64 (k : Int) ∧ Hid (allB (xs.take k) lo hi = true)) (fun i => xs.length - (intOf i).toNat)
  case atStart => exact ⟨0, by omega, rfl, Lib.hid (by simp [allB])⟩
  case round =>
    obtain ⟨k, hk, rfl, HA⟩ := hrel
    by_cases hlt : k < xs.length
    · obtain ⟨g, o, cc, hv, hg, hcells⟩ := H.out.cells (by omega)
      have hA : A0 = some ⟨g, o, none⟩ := by injection hv
      subst hA
      clear hv
      have e1 := hcells k hlt
      clear hcells
      have HB := Lib.hid (allB_take HA.out hlt)
      have HN := Lib.hid (fun hx => allB_no (xs := xs) (lo := lo) (hi := hi) hlt hx)
      generalize xs.getD k 0 = x at *
      by_cases h1 : x < lo
      · have HF := Lib.hid (HN.out (by unfold inBd; rw [decide_eq_false (show ¬ lo ≤ x by omega), Bool.false_and]))
        clear HN HB HA
        go_wp2
        go_ret
        exact ⟨(congrArg (fun b => Ending.returned (.bool b)) HF.out.symm), rfl⟩
      · by_cases h2 : hi < x
        · have HF := Lib.hid (HN.out (by unfold inBd; rw [decide_eq_false (show ¬ x ≤ hi by omega), Bool.and_false]))
          clear HN HB HA
          go_wp2
          go_ret
          exact ⟨(congrArg (fun b => Ending.returned (.bool b)) HF.out.symm), rfl⟩
        · have HF : Hid (allB (xs.take (k + 1)) lo hi = true) := Lib.hid (by rw [HB.out]; unfold inBd; rw [decide_eq_true (show lo ≤ x by omega), decide_eq_true (show x ≤ hi by omega)]; rfl)
          clear HN HB HA
          go_wp2
          go_round
          case rel => exact ⟨k + 1, by omega, by go_num, HF⟩
          case measure => first | (simp [intOf]; done) | (simp [intOf]; omega)
    · have HK : Hid (allB xs lo hi = true) := Lib.hid (by
        have := HA.out
        rwa [List.take_of_length_le (by omega)] at this)
      clear HA
      go_wp2
      go_ret
      exact ⟨(congrArg (fun b => Ending.returned (.bool b)) HK.out.symm), rfl⟩
theorem wth_1 (lo hi x : Int) (X : World) (g : Nat) (hg : g = X.heap.size) : Calls Try.prog 130 #[.int .i64 lo, .int .i64 hi, .slice (some ⟨g, 0, none⟩) 1 1] (X.alloc (.cells #[.int .i64 x] 3)) fun e w' => e = .returned (.bool (inBd lo hi x)) ∧ Below X.heap.size X w' := by
  subst hg
  have hr : RInts (X.alloc (.cells #[.int .i64 x] 3)) (.slice (some ⟨X.heap.size, 0, none⟩) 1 1) [x] :=
    RInts.of_row (B := X.heap.size) (IRow.of_own (World.ownsRow_lit X #[.int .i64 x] 1 (Nat.le_refl _) (by simp [maxLen]) rfl) (by simp) (by simp))
  have h := wth_any _ [x] lo hi _ hr (by simp)
  rw [show allB [x] lo hi = (inBd lo hi x) by simp [allB]] at h
  exact h.mono fun e w' ⟨h1, h2⟩ => ⟨h1, h2 ▸ (Below.refl _ _).alloc (Nat.le_refl _) _⟩
theorem wth_2 (lo hi x y : Int) (X : World) (g : Nat) (hg : g = X.heap.size) : Calls Try.prog 130 #[.int .i64 lo, .int .i64 hi, .slice (some ⟨g, 0, none⟩) 2 2] (X.alloc (.cells #[.int .i64 x, .int .i64 y] 3)) fun e w' => e = .returned (.bool (inBd lo hi x && inBd lo hi y)) ∧ Below X.heap.size X w' := by
  subst hg
  have hr : RInts (X.alloc (.cells #[.int .i64 x, .int .i64 y] 3)) (.slice (some ⟨X.heap.size, 0, none⟩) 2 2) [x, y] :=
    RInts.of_row (B := X.heap.size) (IRow.of_own (World.ownsRow_lit X #[.int .i64 x, .int .i64 y] 2 (Nat.le_refl _) (by simp [maxLen]) rfl) (by simp) (by simp))
  have h := wth_any _ [x, y] lo hi _ hr (by simp)
  rw [show allB [x, y] lo hi = (inBd lo hi x && inBd lo hi y) by simp [allB]] at h
  exact h.mono fun e w' ⟨h1, h2⟩ => ⟨h1, h2 ▸ (Below.refl _ _).alloc (Nat.le_refl _) _⟩
theorem wth_3 (lo hi x y z : Int) (X : World) (g : Nat) (hg : g = X.heap.size) : Calls Try.prog 130 #[.int .i64 lo, .int .i64 hi, .slice (some ⟨g, 0, none⟩) 3 3] (X.alloc (.cells #[.int .i64 x, .int .i64 y, .int .i64 z] 3)) fun e w' => e = .returned (.bool (inBd lo hi x && (inBd lo hi y && inBd lo hi z))) ∧ Below X.heap.size X w' := by
  subst hg
  have hr : RInts (X.alloc (.cells #[.int .i64 x, .int .i64 y, .int .i64 z] 3)) (.slice (some ⟨X.heap.size, 0, none⟩) 3 3) [x, y, z] :=
    RInts.of_row (B := X.heap.size) (IRow.of_own (World.ownsRow_lit X #[.int .i64 x, .int .i64 y, .int .i64 z] 3 (Nat.le_refl _) (by simp [maxLen]) rfl) (by simp) (by simp))
  have h := wth_any _ [x, y, z] lo hi _ hr (by simp)
  rw [show allB [x, y, z] lo hi = (inBd lo hi x && (inBd lo hi y && inBd lo hi z)) by simp [allB]] at h
  exact h.mono fun e w' ⟨h1, h2⟩ => ⟨h1, h2 ▸ (Below.refl _ _).alloc (Nat.le_refl _) _⟩
end Go.Proofs.Ytnlmjeakdjmohaa

/- The program's IsCell, (Cell).place, (place).cell, .east, .north, moveOf. -/
namespace Go.Proofs.Ytnlmjeakdjmohaa
open Go.RowKit
set_option linter.unusedVariables false
theorem isCellI_ret (x y : Int) (w : World) : Calls Try.prog 122 #[celV x y] w (Ret w (.bool (cellB x y))) := by
  have HW : Hid (∀ (X : World) (g : Nat), g = X.heap.size → Calls Try.prog 130 #[.int .i64 0, .int .i64 12, .slice (some ⟨g, 0, none⟩) 2 2] (X.alloc (.cells #[.int .i64 x, .int .i64 y] 3)) fun e w' => e = .returned (.bool (inBd 0 12 x && inBd 0 12 y)) ∧ Below X.heap.size X w') := Lib.hid fun X g hg => wth_2 0 12 x y X g hg
  have hb0 : Below w.heap.size w (w.alloc (.cells #[.int .i64 x, .int .i64 y] 39)) := (Below.refl _ _).alloc (Nat.le_refl _) _
  unfold cellB
  generalize (inBd 0 12 x && inBd 0 12 y) = b at *
  go_enter Try.func122, Try.ntmps122
  go_wp2_with (go_at_call 130; refine (HW.out _ _ (by simp)).mono ?_; rintro e w1 ⟨rfl, hb1⟩)
  go_ret
  exact ⟨rfl, hb0.trans (hb1.mono (by simp))⟩
theorem cellPlace_ret (x y : Int) (w : World) : Calls Try.prog 121 #[celV x y] w (Ret w (celV x y)) := by
  go_enter Try.func121, Try.ntmps121
  go_wp2
  refine bodyPost_ret (v := celV x y) (by simp [results, Try.results121, go_sem]) rfl ⟨rfl, ?_⟩
  exact ((Below.refl _ _).alloc (Nat.le_refl _) _).alloc (by simp) _
theorem placeCell_ret (x y : Int) (w : World) : Calls Try.prog 124 #[celV x y] w (Ret w (celV x y)) := by
  go_enter Try.func124, Try.ntmps124
  go_wp2
  refine bodyPost_ret (v := celV x y) (by simp [results, Try.results124, go_sem]) rfl ⟨rfl, ?_⟩
  exact ((Below.refl _ _).alloc (Nat.le_refl _) _).alloc (by simp) _
theorem east_ret (x y : Int) (w : World) (hx : -100 ≤ x ∧ x ≤ 100) : Calls Try.prog 148 #[celV x y] w (Ret w (celV (x + 1) y)) := by
  go_enter Try.func148, Try.ntmps148
  go_wp2
  refine bodyPost_ret (v := celV (x + 1) y) (by simp [results, Try.results148, go_sem]) rfl ⟨rfl, ?_⟩
  exact ((Below.refl _ _).alloc (Nat.le_refl _) _).alloc (by simp) _
theorem north_ret (x y : Int) (w : World) (hy : -100 ≤ y ∧ y ≤ 100) : Calls Try.prog 149 #[celV x y] w (Ret w (celV x (y + 1))) := by
  go_enter Try.func149, Try.ntmps149
  go_wp2
  refine bodyPost_ret (v := celV x (y + 1)) (by simp [results, Try.results149, go_sem]) rfl ⟨rfl, ?_⟩
  exact ((Below.refl _ _).alloc (Nat.le_refl _) _).alloc (by simp) _
theorem moveOf_E (w : World) : Calls Try.prog 123 #[.int .u8 69] w fun e w' => e = .returned (.tuple #[.func (.func 148) #[] #[], .bool true]) ∧ w = w' := by
  go_enter Try.func123, Try.ntmps123
  go_wp2
  go_ret2
  exact ⟨rfl, rfl⟩
theorem moveOf_N (w : World) : Calls Try.prog 123 #[.int .u8 78] w fun e w' => e = .returned (.tuple #[.func (.func 149) #[] #[], .bool true]) ∧ w = w' := by
  go_enter Try.func123, Try.ntmps123
  go_wp2
  go_ret2
  exact ⟨rfl, rfl⟩
theorem moveOf_no (c : Int) (w : World) (h1 : (c == 69) = false) (h2 : (c == 78) = false) : Calls Try.prog 123 #[.int .u8 c] w fun e w' => (∃ v, e = .returned (.tuple #[v, .bool false])) ∧ w = w' := by
  go_enter Try.func123, Try.ntmps123
  go_wp2
  go_ret2
  exact ⟨⟨_, rfl⟩, rfl⟩
end Go.Proofs.Ytnlmjeakdjmohaa
