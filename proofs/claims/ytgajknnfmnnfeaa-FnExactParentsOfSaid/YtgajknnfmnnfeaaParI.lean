/- The program's ParentsOf, DepthsOf. -/
import Derived.Test.YtgajknnfmnnfeaaWalkP
import Derived.Test.YtgajknnfmnnfeaaDegI
import Derived.Test.YtgajknnfmnnfeaaRot
import Derived.Test.YtgajknnfmnnfeaaForV
namespace Go.Proofs.Ytgajknnfmnnfeaa
open Go.RowKit
set_option linter.unusedVariables false
theorem IRow.same {w w' : World} {B g n c : Nat} {xs : List Int} (h : IRow w B (.slice (some ⟨g, 0, none⟩) n c) xs) (e : w'.heap[g]? = w.heap[g]?) : IRow w' B (.slice (some ⟨g, 0, none⟩) n c) xs := by
  refine ⟨h.1, ?_⟩
  rcases h.2 with h2 | ⟨g', cap, cur, hv, hB, hg, r⟩
  · exact .inl h2
  · have hgg : g = g' := by
      injection hv with h1
      injection h1 with h1
      injection h1
    subst hgg
    exact .inr ⟨g, cap, cur, hv, hB, by rw [e]; exact hg, r⟩
def PInv (L B N : Nat) (w : World) (es : List (Nat × Int × Nat)) : Prop :=
  B + 2 ≤ w.heap.size ∧ w.cell? ⟨B + 1, 0, none⟩ = some (.slice (some ⟨L, 0, none⟩) N N) ∧ IRow w L (.slice (some ⟨L, 0, none⟩) N N) (setAll (List.replicate N 0) es)
theorem PInv.same {L B N : Nat} {w w' : World} {es : List (Nat × Int × Nat)} (h : PInv L B N w es) (hs : w.heap.size ≤ w'.heap.size) (h0 : w'.heap[L]? = w.heap[L]?) (h1 : w'.heap[B + 1]? = w.heap[B + 1]?) : PInv L B N w' es :=
  ⟨Nat.le_trans h.1 hs, (cell_sameP h1).trans h.2.1, h.2.2.same h0⟩
set_option maxHeartbeats 400000 in
theorem parentsClo (L B N : Nat) (hLB : L ≤ B) (w : World) (es : List (Nat × Int × Nat)) (n b : Nat) (p : Int) (hn : n < N) (hN : N ≤ 1048576) (hs : B + 6 ≤ w.heap.size) (hi : PInv L B N w es) :
    Calls Try.prog 72 #[.int .i64 (n : Int), .int .i64 p, .int .i64 (b : Int), .pointer (some ⟨B + 1, 0, none⟩)] w fun e w' => e = .returned UnitV ∧ PInv L B N w' (es ++ [(n, p, b)]) ∧ OnlyP L B w w' ∧ w'.heap[B + 4]? = w.heap[B + 4]? := by
  obtain ⟨h1, h2, h3⟩ := hi
  have hl := setAll_length es (List.replicate N 0)
  rw [List.length_replicate] at hl
  have e1 := h3.cell (j := n) (by rw [hl]; exact hn)
  have f1 := h3.free n
  have hst := h3.set n p
  have HR : Hid (PInv L B N (w.setCell ⟨L, n, none⟩ (.int .i64 p)) (es ++ [(n, p, b)]) ∧ OnlyP L B w (w.setCell ⟨L, n, none⟩ (.int .i64 p)) ∧ (w.setCell ⟨L, n, none⟩ (.int .i64 p)).heap[B + 4]? = w.heap[B + 4]?) := by
    have hb : ∀ k, k ≠ L → (w.setCell ⟨L, n, none⟩ (.int .i64 p)).heap[k]? = w.heap[k]? := fun k hk => Below.heap_setCell _ _ _ _ (by simpa using hk)
    refine ⟨⟨by simpa [World.setCell] using h1, (cell_sameP (hb _ (by omega))).trans h2, by rw [setAll_snoc]; exact hst.1⟩, ⟨rfl, rfl, rfl, by simp [World.setCell], fun k hk => hb k (by omega), fun k h1 h2 h3 => hb k (by omega)⟩, hb _ (by omega)⟩
  clear h3 hst
  generalize (setAll (List.replicate N 0) es).getD n 0 = y at *
  go_enter Try.func72, Try.ntmps72
  go_wp2_with fail
  go_end0
  exact ⟨rfl, HR.out⟩
set_option maxHeartbeats 1600000 in
theorem parents_yes (A : Option Addr) (cap : Nat) (xs : List Int) (w : World) (h : RInts w (.slice A xs.length cap) xs) (hl : xs.length ≤ 1048576) (hv : forV xs = true) (f : For) (hf : f.enc = xs) :
    Calls Try.prog 39 #[.slice A xs.length cap] w (IntsRet w true (f.par 0 (-1))) := by
  obtain ⟨i0, hi, hz0, hz1, hz2⟩ := info_parts intInfo
  have hmf : ∀ (fn : Fn) (first cap : Array Value) (w : World), (Instr.makeFunc fn first cap).run Try.prog w = .ok (.func fn first cap) w := fun _ _ _ _ => rfl
  have HF : Hid (Calls Try.prog 26 #[.slice A xs.length cap] w fun e w' => e = .returned (.tuple #[.bool true, .bool (degB xs)]) ∧ w = w') := Lib.hid (by rw [← hv]; exact isForest_any _ xs w h hl)
  have hd : degB xs = true := by unfold forV at hv; rw [Bool.and_eq_true] at hv; exact hv.1
  obtain ⟨g, o, rfl, hg, hcells⟩ := degB_cells h hd
  have HC := Lib.hid hcells
  have HFE := Lib.hid hf
  clear h hv hd hcells hf
  go_enter Try.func39, Try.ntmps39
  go_wp2_with (first | (go_at_call 26; refine HF.out.mono ?_; rintro e w' ⟨rfl, rfl⟩) | (refine wpList_make_full _ rfl (.tmp 15) (.tmp 15) 22 rfl w.heap.size 3 i0 (.int .i64 0) 1 Try.underlying22 hi hz0 hz1 .i64 .i64 _ _ xs.length rfl rfl (by omega) (by omega) (by rw [hz2]; omega) (by unfold maxLen; omega) (Nat.le_refl _) ?_; intro w1 hown1 hgrow1))
  have hrow1 := hown1.lt _ rfl
  obtain ⟨B, hB⟩ : ∃ B, w1.heap.size = B + 1 := ⟨w1.heap.size - 1, by omega⟩
  have hLB : w.heap.size ≤ B := by omega
  have hb1 : Below w.heap.size w w1 := (Below.refl _ _).grown hgrow1 (Nat.le_refl _) (by simp)
  have hb2 : Below w.heap.size w (w1.alloc (.cells #[.slice (some ⟨w.heap.size, 0, none⟩) xs.length xs.length] 22)) := hb1.alloc (by omega) _
  have hi0 : PInv w.heap.size B xs.length (w1.alloc (.cells #[.slice (some ⟨w.heap.size, 0, none⟩) xs.length xs.length] 22)) [] := by
    refine ⟨by simp [hB], by rw [← hB]; simp, ?_⟩
    have : IRow w1 w.heap.size (.slice (some ⟨w.heap.size, 0, none⟩) xs.length xs.length) (setAll (List.replicate xs.length 0) []) :=
      IRow.of_own hown1 (by simp [setAll]) (by rw [madeOne _ rfl]; simp [setAll])
    exact this.alloc _
  have hs2 : (w1.alloc (.cells #[.slice (some ⟨w.heap.size, 0, none⟩) xs.length xs.length] 22)).heap.size = B + 2 := by simp [hB]
  have hc2 : ∀ j, j < xs.length → (w1.alloc (.cells #[.slice (some ⟨w.heap.size, 0, none⟩) xs.length xs.length] 22)).cell? ⟨g, o + j, none⟩ = some (.int .i64 (xs.getD j 0)) := fun j hj => (hb2.cell (p := ⟨g, o + j, none⟩) hg).trans (HC.out j hj)
  rw [hB]
  generalize (w1.alloc (.cells #[.slice (some ⟨w.heap.size, 0, none⟩) xs.length xs.length] 22)) = W at *
  refine (walkForestP w.heap.size B g o cap xs hl (PInv w.heap.size B xs.length)
    (Lib.hid fun w es n b p h1 h2 h2' h3 h4 => parentsClo _ B xs.length hLB w es n b p (by omega) hl h3 h4)
    (Lib.hid fun w es v h => h.same (by simp [World.setCell]) (Below.heap_setCell _ _ _ _ (by simp; omega)) (Below.heap_setCell _ _ _ _ (by simp)))
    (Lib.hid fun w es o h => h.same (by simp) (Below.heap_alloc _ _ _ (by have := h.1; omega)) (Below.heap_alloc _ _ _ (by have := h.1; omega)))
    f HFE.out.symm W hs2 hg hLB hc2 hi0).mono ?_
  rintro e w2 ⟨rfl, hin, q1, q2, q3, q4, q5⟩
  have hcl := hin.2.1
  have HIN := Lib.hid hin.2.2
  have HB : Hid (Below w.heap.size w w2) := Lib.hid ⟨q1.trans hb2.os, q2.trans hb2.tape, q3.trans hb2.output, Nat.le_trans hb2.size q4, fun k hk => (q5 k hk).trans (hb2.block k hk)⟩
  clear hin hb2 hi0 hc2 hb1 hown1
  go_wp2_with fail
  go_ret2
  refine ⟨_, rfl, ?_, HB.out⟩
  have e := setAll_evs f [] (List.replicate xs.length 0) [] (-1) (by rw [List.length_replicate, ← HFE.out, For.enc_length])
  simp only [List.nil_append, List.append_nil, List.length_nil] at e
  have r := HIN.out
  rw [e] at r
  exact r
set_option maxHeartbeats 400000 in
theorem parents_no (v : Value) (xs : List Int) (w : World) (h : RInts w v xs) (hl : xs.length ≤ 1048576) (hv : forV xs = false) :
    Calls Try.prog 39 #[v] w (IntsRet w false []) := by
  obtain ⟨A, cap, rfl⟩ := h.shape
  have HF : Hid (Calls Try.prog 26 #[.slice A xs.length cap] w fun e w' => e = .returned (.tuple #[.bool false, .bool (degB xs)]) ∧ w = w') := Lib.hid (by rw [← hv]; exact isForest_any _ xs w h hl)
  clear h hv
  go_enter Try.func39, Try.ntmps39
  go_wp2_with (go_at_call 26; refine HF.out.mono ?_; rintro e w' ⟨rfl, rfl⟩)
  go_ret2
  exact ⟨_, rfl, IRow.nil _ _, Below.refl _ _⟩
theorem parentsOf_ret (v : Value) (xs : List Int) (w : World) (h : RInts w v xs) (hl : xs.length ≤ 1048576) :
    Calls Try.prog 39 #[v] w (IntsRet w (forV xs) (parV xs)) := by
  obtain ⟨A, cap, rfl⟩ := h.shape
  rcases Bool.eq_false_or_eq_true (forV xs) with hv | hv
  · unfold parV
    rw [dif_pos hv, hv]
    exact parents_yes A cap xs w h hl hv _ (forest_ex hv).choose_spec.1
  · unfold parV
    rw [dif_neg (by rw [hv]; simp), hv]
    exact parents_no _ xs w h hl hv
end Go.Proofs.Ytgajknnfmnnfeaa
