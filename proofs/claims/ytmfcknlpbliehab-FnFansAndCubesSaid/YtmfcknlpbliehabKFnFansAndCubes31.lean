/- Pack 31 of what FnFansAndCubes needs: POwn, WthI, PlI. -/
import Derived.Test.YtmfcknlpbliehabKFnFansAndCubes30
import Derived.Deep.RegionHeld3
/- Words for memory: a slice of places that the call owns, told by its numbers one behind the other. -/
namespace Go.Proofs.Ytmfcknlpbliehab
open Go.RowKit
set_option linter.unusedVariables false
theorem plcInfo : (Try.prog.info? 91).map (fun i => (i.zero, i.size, i.bytes)) = some (some (.agg #[.int .i64 0, .int .i64 0]), 2, 16) := by kernel_rfl
def PRow (w : World) (B : Nat) (v : Value) (n : Nat) (xs : List Int) : Prop := w.ownsRow B 91 2 v n (xs.map (Value.int .i64)) ∧ xs.length = n * 2
section
variable {w w' : World} {B n : Nat} {v : Value} {xs : List Int}
theorem PRow.nil (w : World) (B : Nat) : PRow w B (.slice none 0 0) 0 [] := ⟨World.ownsRow_nil _ _ _ _, rfl⟩
theorem PRow.mono (h : PRow w B v n xs) {B' : Nat} (hb : B' ≤ B) : PRow w B' v n xs := by
  refine ⟨⟨h.1.1, ?_⟩, h.2⟩
  rcases h.1.2 with h2 | ⟨g, cap, cur, hv, hg, r⟩
  · exact .inl h2
  · exact .inr ⟨g, cap, cur, hv, Nat.le_trans hb hg, r⟩
theorem PRow.drewN (h : PRow w B v n xs) (k : Nat) : PRow (w.drewN k) B v n xs := h
theorem PRow.below (h : PRow w B v n xs) (hb : Below w.heap.size w w') : PRow w' B v n xs :=
  ⟨World.ownsRow.kept (row := none) h.1 ⟨hb.os, hb.tape, hb.output, hb.size, fun k hk _ => hb.block k hk⟩ (by cases v.ownBlock <;> simp), h.2⟩
theorem PRow.shape (h : PRow w B v n xs) : ∃ A c, v = .slice A n c := by
  rcases h.1.2 with ⟨h1, h0⟩ | ⟨g, cap, cur, hv, _⟩
  · exact ⟨none, 0, by rw [h1, h0]⟩
  · exact ⟨_, cap, hv⟩
theorem PRow.form (h : PRow w B v n xs) (hx : 0 < n) : ∃ g c, v = .slice (some ⟨g, 0, none⟩) n c ∧ B ≤ g ∧ g < w.heap.size := by
  rcases h.1.2 with ⟨_, h0⟩ | ⟨g, cap, cur, hv, hg, hh, _⟩
  · omega
  · exact ⟨g, cap, hv, hg, (Array.getElem?_eq_some_iff.1 hh).1⟩
theorem PRow.blk (h : PRow w B v n xs) : ∀ k, v.ownBlock = some k → B ≤ k ∧ k < w.heap.size := World.ownsRow.lt h.1
theorem PRow.cell {g c : Nat} (h : PRow w B (.slice (some ⟨g, 0, none⟩) n c) n xs) {j : Nat} (hj : j < n * 2) : w.cell? ⟨g, j, none⟩ = some (.int .i64 (xs.getD j 0)) := by
  rw [World.ownsRow.cellAt h.1 j (by omega)]
  have := h.2
  simp [show j < xs.length by omega]
theorem PRow.free {g c : Nat} (h : PRow w B (.slice (some ⟨g, 0, none⟩) n c) n xs) (j : Nat) : w.frozen? ⟨g, j, none⟩ = false := World.ownsRow.frozenAt h.1 j
theorem PRow.set {g c : Nat} (h : PRow w B (.slice (some ⟨g, 0, none⟩) n c) n xs) (j : Nat) (u : Int) :
    PRow (w.setCell ⟨g, j, none⟩ (.int .i64 u)) B (.slice (some ⟨g, 0, none⟩) n c) n (xs.set j u) ∧ w.grownBy (w.setCell ⟨g, j, none⟩ (.int .i64 u)) (some g) := by
  have := World.ownsRow.stored h.1 j (.int .i64 u)
  refine ⟨⟨?_, by rw [List.length_set]; exact h.2⟩, this.2⟩
  have h1 := this.1
  rw [List.map_set]
  exact h1
end
theorem PRow.grown_other {w w' : World} {B B2 n : Nat} {v v2 : Value} {xs : List Int} (h : PRow w B v n xs) (hg : w.grownBy w' v2.ownBlock) (hv : ∀ k, v.ownBlock = some k → k < B2) (hv2 : ∀ k, v2.ownBlock = some k → B2 ≤ k) : PRow w' B v n xs :=
  ⟨World.ownsRow.kept h.1 hg (by
    cases e : v.ownBlock with
    | none => exact .inl rfl
    | some k =>
      right
      intro e2
      have a := hv k e
      have b := hv2 k e2.symm
      omega), h.2⟩
end Go.Proofs.Ytmfcknlpbliehab

/- The program's isWithin. -/
namespace Go.Proofs.Ytmfcknlpbliehab
open Go.RowKit
set_option linter.unusedVariables false
set_option maxHeartbeats 800000 in
theorem wth_any (v : Value) (xs : List Int) (lo hi : Int) (w : World) (h : RInts w v xs) (hl : xs.length ≤ 1048576) :
    Calls Try.prog 50 #[.int .i64 lo, .int .i64 hi, v] w fun e w' => e = .returned (.bool (allB xs lo hi)) ∧ w = w' := by
  obtain ⟨A0, cap, rfl⟩ := h.shape
  have H := Lib.hid h
  clear h
  go_enter Try.func50, Try.ntmps50
  go_wp2
  go_loop [11] (fun i => ∃ k : Nat, k ≤ xs.length ∧ i = .int .i64 (k : Int) ∧ Hid (allB (xs.take k) lo hi = true)) (fun i => xs.length - (intOf i).toNat)
  case atStart => exact ⟨0, by omega, rfl, Lib.hid (by simp [allB])⟩
  case round =>
    obtain ⟨k, hk, rfl, HA⟩ := hrel
    by_cases hlt : k < xs.length
    · obtain ⟨g, o, cc, hv, hg, hcells⟩ := H.out.cells (by omega)
      have hA : A0 = some ⟨g, o, none⟩ := by injection hv
      subst hA
      clear hv
      have e1 := hcells k hlt
      clear hcells
      have HB := Lib.hid (allB_take HA.out hlt)
      have HN := Lib.hid (fun hx => allB_no (xs := xs) (lo := lo) (hi := hi) hlt hx)
      generalize xs.getD k 0 = x at *
      by_cases h1 : x < lo
      · have HF := Lib.hid (HN.out (by unfold inBd; rw [decide_eq_false (show ¬ lo ≤ x by omega), Bool.false_and]))
        clear HN HB HA
        go_wp2
        go_ret
        exact ⟨(congrArg (fun b => Ending.returned (.bool b)) HF.out.symm), rfl⟩
      · by_cases h2 : hi < x
        · have HF := Lib.hid (HN.out (by unfold inBd; rw [decide_eq_false (show ¬ x ≤ hi by omega), Bool.and_false]))
          clear HN HB HA
          go_wp2
          go_ret
          exact ⟨(congrArg (fun b => Ending.returned (.bool b)) HF.out.symm), rfl⟩
        · have HF : Hid (allB (xs.take (k + 1)) lo hi = true) := Lib.hid (by rw [HB.out]; unfold inBd; rw [decide_eq_true (show lo ≤ x by omega), decide_eq_true (show x ≤ hi by omega)]; rfl)
          clear HN HB HA
          go_wp2
          go_round
          case rel => exact ⟨k + 1, by omega, by go_num, HF⟩
          case measure => first | (simp [intOf]; done) | (simp [intOf]; omega)
    · have HK : Hid (allB xs lo hi = true) := Lib.hid (by
        have := HA.out
        rwa [List.take_of_length_le (by omega)] at this)
      clear HA
      go_wp2
      go_ret
      exact ⟨(congrArg (fun b => Ending.returned (.bool b)) HK.out.symm), rfl⟩
theorem wth_1 (lo hi x : Int) (X : World) (g : Nat) (hg : g = X.heap.size) : Calls Try.prog 50 #[.int .i64 lo, .int .i64 hi, .slice (some ⟨g, 0, none⟩) 1 1] (X.alloc (.cells #[.int .i64 x] 3)) fun e w' => e = .returned (.bool (inBd lo hi x)) ∧ Below X.heap.size X w' := by
  subst hg
  have hr : RInts (X.alloc (.cells #[.int .i64 x] 3)) (.slice (some ⟨X.heap.size, 0, none⟩) 1 1) [x] :=
    RInts.of_row (B := X.heap.size) (IRow.of_own (World.ownsRow_lit X #[.int .i64 x] 1 (Nat.le_refl _) (by simp [maxLen]) rfl) (by simp) (by simp))
  have h := wth_any _ [x] lo hi _ hr (by simp)
  rw [show allB [x] lo hi = (inBd lo hi x) by simp [allB]] at h
  exact h.mono fun e w' ⟨h1, h2⟩ => ⟨h1, h2 ▸ (Below.refl _ _).alloc (Nat.le_refl _) _⟩
theorem wth_2 (lo hi x y : Int) (X : World) (g : Nat) (hg : g = X.heap.size) : Calls Try.prog 50 #[.int .i64 lo, .int .i64 hi, .slice (some ⟨g, 0, none⟩) 2 2] (X.alloc (.cells #[.int .i64 x, .int .i64 y] 3)) fun e w' => e = .returned (.bool (inBd lo hi x && inBd lo hi y)) ∧ Below X.heap.size X w' := by
  subst hg
  have hr : RInts (X.alloc (.cells #[.int .i64 x, .int .i64 y] 3)) (.slice (some ⟨X.heap.size, 0, none⟩) 2 2) [x, y] :=
    RInts.of_row (B := X.heap.size) (IRow.of_own (World.ownsRow_lit X #[.int .i64 x, .int .i64 y] 2 (Nat.le_refl _) (by simp [maxLen]) rfl) (by simp) (by simp))
  have h := wth_any _ [x, y] lo hi _ hr (by simp)
  rw [show allB [x, y] lo hi = (inBd lo hi x && inBd lo hi y) by simp [allB]] at h
  exact h.mono fun e w' ⟨h1, h2⟩ => ⟨h1, h2 ▸ (Below.refl _ _).alloc (Nat.le_refl _) _⟩
theorem wth_3 (lo hi x y z : Int) (X : World) (g : Nat) (hg : g = X.heap.size) : Calls Try.prog 50 #[.int .i64 lo, .int .i64 hi, .slice (some ⟨g, 0, none⟩) 3 3] (X.alloc (.cells #[.int .i64 x, .int .i64 y, .int .i64 z] 3)) fun e w' => e = .returned (.bool (inBd lo hi x && (inBd lo hi y && inBd lo hi z))) ∧ Below X.heap.size X w' := by
  subst hg
  have hr : RInts (X.alloc (.cells #[.int .i64 x, .int .i64 y, .int .i64 z] 3)) (.slice (some ⟨X.heap.size, 0, none⟩) 3 3) [x, y, z] :=
    RInts.of_row (B := X.heap.size) (IRow.of_own (World.ownsRow_lit X #[.int .i64 x, .int .i64 y, .int .i64 z] 3 (Nat.le_refl _) (by simp [maxLen]) rfl) (by simp) (by simp))
  have h := wth_any _ [x, y, z] lo hi _ hr (by simp)
  rw [show allB [x, y, z] lo hi = (inBd lo hi x && (inBd lo hi y && inBd lo hi z)) by simp [allB]] at h
  exact h.mono fun e w' ⟨h1, h2⟩ => ⟨h1, h2 ▸ (Below.refl _ _).alloc (Nat.le_refl _) _⟩
end Go.Proofs.Ytmfcknlpbliehab

/- The program's IsCell, (Cell).place, (place).cell, .east, .north, moveOf. -/
namespace Go.Proofs.Ytmfcknlpbliehab
open Go.RowKit
set_option linter.unusedVariables false
theorem isCellI_ret (x y : Int) (w : World) : Calls Try.prog 74 #[celV x y] w (Ret w (.bool (cellB x y))) := by
  have HW : Hid (∀ (X : World) (g : Nat), g = X.heap.size → Calls Try.prog 50 #[.int .i64 0, .int .i64 12, .slice (some ⟨g, 0, none⟩) 2 2] (X.alloc (.cells #[.int .i64 x, .int .i64 y] 3)) fun e w' => e = .returned (.bool (inBd 0 12 x && inBd 0 12 y)) ∧ Below X.heap.size X w') := Lib.hid fun X g hg => wth_2 0 12 x y X g hg
  have hb0 : Below w.heap.size w (w.alloc (.cells #[.int .i64 x, .int .i64 y] 54)) := (Below.refl _ _).alloc (Nat.le_refl _) _
  unfold cellB
  generalize (inBd 0 12 x && inBd 0 12 y) = b at *
  go_enter Try.func74, Try.ntmps74
  go_wp2_with (go_at_call 50; refine (HW.out _ _ (by simp)).mono ?_; rintro e w1 ⟨rfl, hb1⟩)
  go_ret
  exact ⟨rfl, hb0.trans (hb1.mono (by simp))⟩
theorem cellPlace_ret (x y : Int) (w : World) : Calls Try.prog 70 #[celV x y] w (Ret w (celV x y)) := by
  go_enter Try.func70, Try.ntmps70
  go_wp2
  refine bodyPost_ret (v := celV x y) (by simp [results, Try.results70, go_sem]) rfl ⟨rfl, ?_⟩
  exact ((Below.refl _ _).alloc (Nat.le_refl _) _).alloc (by simp) _
end Go.Proofs.Ytmfcknlpbliehab
