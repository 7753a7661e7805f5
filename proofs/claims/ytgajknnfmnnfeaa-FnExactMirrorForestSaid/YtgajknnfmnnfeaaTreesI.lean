/- treesIn, the program's TreesOf. -/
import Derived.Test.YtgajknnfmnnfeaaWalkT
import Derived.Test.YtgajknnfmnnfeaaVOwn
import Derived.Test.YtgajknnfmnnfeaaRotI
namespace Go.Proofs.Ytgajknnfmnnfeaa
open Go.RowKit
set_option linter.unusedVariables false
def cutV (g o : Nat) (e : Nat × Nat) : Value := .slice (some ⟨g, o + e.1, none⟩) (e.2 - e.1) (e.2 - e.1)
def TInv (B g o N cap : Nat) (w : World) (es : List (Nat × Int × Nat)) : Prop :=
  B + 2 ≤ w.heap.size ∧ w.cell? ⟨B, 0, none⟩ = some (.slice (some ⟨g, o, none⟩) N cap) ∧ w.frozen? ⟨B + 1, 0, none⟩ = false ∧
  ∃ v, w.cell? ⟨B + 1, 0, none⟩ = some v ∧ VRow w (B + 6) v ((topsOf es).map (cutV g o))
theorem TInv.same {B g o N cap : Nat} {w w' : World} {es : List (Nat × Int × Nat)} (h : TInv B g o N cap w es) (hs : w.heap.size ≤ w'.heap.size) (h0 : ∀ k, (k = B ∨ k = B + 1 ∨ B + 6 ≤ k) → k < w.heap.size → w'.heap[k]? = w.heap[k]?) : TInv B g o N cap w' es := by
  obtain ⟨h1, h2, h3, v, h4, h5⟩ := h
  exact ⟨Nat.le_trans h1 hs, (cell_sameT (h0 _ (.inl rfl) (by omega))).trans h2, (frozen_sameT (h0 _ (.inr (.inl rfl)) (by omega))).trans h3, v, (cell_sameT (h0 _ (.inr (.inl rfl)) (by omega))).trans h4,
    h5.same fun k hk => h0 k (.inr (.inr (h5.blk k hk).1)) (h5.blk k hk).2⟩
theorem topsOf_no {es : List (Nat × Int × Nat)} {n b : Nat} {p : Int} (h : p ≠ -1) : topsOf (es ++ [(n, p, b)]) = topsOf es := by
  rw [topsOf_app]
  unfold topsOf
  rw [List.filter_cons_of_neg (by simpa using h)]
  simp
theorem topsOf_yes {es : List (Nat × Int × Nat)} {n b : Nat} : topsOf (es ++ [(n, -1, b)]) = topsOf es ++ [(n, b)] := by
  rw [topsOf_app]
  simp [topsOf]
theorem trees_done {B g o N cap : Nat} {w w2 : World} {es : List (Nat × Int × Nat)} {n b : Nat} {RL : List Value} {A2 : Option Addr} {c2 : Nat} {old : Value}
    (hs : B + 6 ≤ w.heap.size) (h2 : w.cell? ⟨B, 0, none⟩ = some (.slice (some ⟨g, o, none⟩) N cap)) (hRL : RL ++ [cutV g o (n, b)] = (topsOf (es ++ [(n, -1, b)])).map (cutV g o))
    (hr2 : VRow w2 (B + 6) (.slice A2 (RL ++ [cutV g o (n, b)]).length c2) (RL ++ [cutV g o (n, b)])) (q : w2.os = w.os ∧ w2.tape = w.tape ∧ w2.output = w.output)
    (hs2 : w.heap.size ≤ w2.heap.size) (hk2 : ∀ k, k < w.heap.size → k < B + 6 → w2.heap[k]? = w.heap[k]?) (f2 : w2.frozen? ⟨B + 1, 0, none⟩ = false) (e2 : w2.cell? ⟨B + 1, 0, none⟩ = some old) :
    TInv B g o N cap (w2.setCell ⟨B + 1, 0, none⟩ (.slice A2 (RL.length + 1) c2)) (es ++ [(n, -1, b)]) ∧ OnlyT B B w (w2.setCell ⟨B + 1, 0, none⟩ (.slice A2 (RL.length + 1) c2)) ∧ (w2.setCell ⟨B + 1, 0, none⟩ (.slice A2 (RL.length + 1) c2)).heap[B + 4]? = w.heap[B + 4]? := by
  have hk3 : ∀ k, k ≠ B + 1 → (w2.setCell ⟨B + 1, 0, none⟩ (.slice A2 (RL.length + 1) c2)).heap[k]? = w2.heap[k]? := fun k hk => Below.heap_setCell _ _ _ _ (by simpa using hk)
  have hst : (w2.setCell ⟨B + 1, 0, none⟩ (.slice A2 (RL.length + 1) c2)).heap.size = w2.heap.size := by simp [World.setCell]
  rw [show (RL ++ [cutV g o (n, b)]).length = RL.length + 1 by simp] at hr2
  refine ⟨⟨by omega, (cell_sameT ((hk3 B (by omega)).trans (hk2 B (by omega) (by omega)))).trans h2, by rw [World.frozen?_setCell]; exact f2, _, World.cell?_setCell_same w2 ⟨B + 1, 0, none⟩ _ e2, ?_⟩,
    ⟨q.1, q.2.1, q.2.2, by omega, fun k hk => (hk3 k (by omega)).trans (hk2 k (by omega) (by omega)), fun k h1 h2 h3 => (hk3 k (by omega)).trans (hk2 k (by omega) (by omega))⟩, (hk3 _ (by omega)).trans (hk2 _ (by omega) (by omega))⟩
  rw [← hRL]
  exact hr2.same fun k hk => hk3 k (by have := (hr2.blk k hk).1; omega)
set_option maxHeartbeats 800000 in
theorem treesClo (B g o N cap : Nat) (w : World) (es : List (Nat × Int × Nat)) (n b : Nat) (p : Int) (hnb : n < b) (hb : b ≤ N) (hN : N ≤ 1048576) (hcap : N ≤ cap ∧ cap ≤ maxLen) (hl : es.length ≤ b) (hs : B + 6 ≤ w.heap.size) (hi : TInv B g o N cap w es) :
    Calls Try.prog 98 #[.int .i64 (n : Int), .int .i64 p, .int .i64 (b : Int), .pointer (some ⟨B + 1, 0, none⟩), .pointer (some ⟨B, 0, none⟩)] w fun e w' => e = .returned UnitV ∧ TInv B g o N cap w' (es ++ [(n, p, b)]) ∧ OnlyT B B w w' ∧ w'.heap[B + 4]? = w.heap[B + 4]? := by
  by_cases hp : p = -1
  · subst hp
    obtain ⟨h1, h2, h3, v, h4, h5⟩ := hi
    have HRL : Hid (((topsOf es).map (cutV g o)) ++ [cutV g o (n, b)] = (topsOf (es ++ [(n, -1, b)])).map (cutV g o)) := Lib.hid (by rw [topsOf_yes]; simp)
    have HLEN : Hid (((topsOf es).map (cutV g o)).length ≤ 2000000) := Lib.hid (by have := topsOf_len es; rw [List.length_map]; omega)
    generalize (topsOf es).map (cutV g o) = RL at *
    obtain ⟨A, c, rfl⟩ := h5.shape
    have i5 : ¬ b = n := by omega
    have i1 : (n : Int) ≤ (b : Int) := by omega
    have i2 : (b : Int) ≤ (cap : Int) := by omega
    have i3 : (0 : Int) ≤ (n : Int) := by omega
    have H5 := Lib.hid h5
    have H3 := Lib.hid h3
    clear h5
    have e4a : ∀ o, (w.alloc o).cell? ⟨B + 1, 0, none⟩ = some (.slice A RL.length c) := fun x => (World.cell?_alloc_past _ _ _ (by show B + 1 < w.heap.size; omega)).trans h4
    have e2a : ∀ x, (w.alloc x).cell? ⟨B, 0, none⟩ = some (.slice (some ⟨g, o, none⟩) N cap) := fun x => (World.cell?_alloc_past _ _ _ (by show B < w.heap.size; omega)).trans h2
    go_enter Try.func98, Try.ntmps98
    go_wp2_with fail
    go_region_law (first
      | (refine step_pushV (.tmp 10) (.tmp 16) rfl rfl (B + 6) _ _ (by rfl) (H5.out.drew.alloc _) _ _ (by rfl) (by simp; rfl) rfl HLEN.out (by simp; omega) ?_; intro v2 w2 hr2 hg2 hat2; obtain ⟨A2, c2, rfl⟩ := hr2.shape; have hk2 : ∀ k, k < w.heap.size → k < B + 6 → w2.heap[k]? = w.heap[k]? := (fun k hk hk6 => (hg2.block k (by simp; omega) (fun e => by have := (H5.out.blk k e.symm).1; omega)).trans (Below.heap_alloc w _ k hk)); have hs2 : w.heap.size ≤ w2.heap.size := Nat.le_trans (by simp) hg2.size; have e2 := (cell_sameT (j := 0) (hk2 (B + 1) (by omega) (by omega))).trans h4; have f2 := (frozen_sameT (j := 0) (hk2 (B + 1) (by omega) (by omega))).trans H3.out))
    all_goals go_end0
    all_goals exact ⟨rfl, trees_done hs h2 HRL.out hr2 ⟨hg2.os, hg2.tape, hg2.output⟩ hs2 hk2 f2 e2⟩
  · have hpp : (p == -1) = false := beq_eq_false_iff_ne.2 hp
    have HR : Hid (TInv B g o N cap w (es ++ [(n, p, b)])) := by
      obtain ⟨h1, h2, h3, v, h4, h5⟩ := hi
      exact ⟨h1, h2, h3, v, h4, by rw [topsOf_no hp]; exact h5⟩
    clear hi
    go_enter Try.func98, Try.ntmps98
    go_wp2_with fail
    go_end0
    exact ⟨rfl, HR.out, OnlyT.refl _ _ _, rfl⟩
set_option maxHeartbeats 800000 in
theorem treesIn_any (g o cap : Nat) (xs : List Int) (w : World) (hg : g < w.heap.size) (hcells : ∀ j, j < xs.length → w.cell? ⟨g, o + j, none⟩ = some (.int .i64 (xs.getD j 0))) (hl : xs.length ≤ 1048576) (hcap : xs.length ≤ cap ∧ cap ≤ maxLen) (f : For) (hf : f.enc = xs) :
    Calls Try.prog 68 #[.slice (some ⟨g, o, none⟩) xs.length cap] w fun e w' => ∃ v, e = .returned v ∧ VRow w' w.heap.size v ((f.tops 0).map (cutV g o)) ∧ Below w.heap.size w w' := by
  have hmf : ∀ (fn : Fn) (first cap : Array Value) (w : World), (Instr.makeFunc fn first cap).run Try.prog w = .ok (.func fn first cap) w := fun _ _ _ _ => rfl
  have hb2 : Below w.heap.size w ((w.alloc (.cells #[.slice (some ⟨g, o, none⟩) xs.length cap] 22)).alloc (.cells #[.slice none 0 0] 35)) := ((Below.refl _ _).alloc (Nat.le_refl _) _).alloc (by simp) _
  have hi0 : TInv w.heap.size g o xs.length cap ((w.alloc (.cells #[.slice (some ⟨g, o, none⟩) xs.length cap] 22)).alloc (.cells #[.slice none 0 0] 35)) [] := by
    refine ⟨by simp, ?_, World.frozen?_alloc_at _ _ _ _ (by simp), .slice none 0 0, ?_, VRow.nil _ _⟩
    · rw [World.cell?_alloc_past _ _ _ (by simp), World.cell?_alloc_at _ _ _ _ rfl]; rfl
    · rw [World.cell?_alloc_at _ _ _ _ (by simp)]; rfl
  have hs2 : ((w.alloc (.cells #[.slice (some ⟨g, o, none⟩) xs.length cap] 22)).alloc (.cells #[.slice none 0 0] 35)).heap.size = w.heap.size + 2 := by simp
  have hc2 : ∀ j, j < xs.length → ((w.alloc (.cells #[.slice (some ⟨g, o, none⟩) xs.length cap] 22)).alloc (.cells #[.slice none 0 0] 35)).cell? ⟨g, o + j, none⟩ = some (.int .i64 (xs.getD j 0)) := fun j hj => (hb2.cell (p := ⟨g, o + j, none⟩) hg).trans (hcells j hj)
  have e1 : ((w.alloc (.cells #[.slice (some ⟨g, o, none⟩) xs.length cap] 22)).alloc (.cells #[.slice none 0 0] 35)).cell? ⟨w.heap.size, 0, none⟩ = some (.slice (some ⟨g, o, none⟩) xs.length cap) := hi0.2.1
  have HI := Lib.hid hi0
  have HS := Lib.hid hs2
  have HC := Lib.hid hc2
  have HB := Lib.hid hb2
  have HF := Lib.hid hf
  clear hi0 hs2 hc2 hb2 hcells hf
  go_enter Try.func68, Try.ntmps68
  go_wp2_with fail
  refine (walkForestT w.heap.size w.heap.size g o cap xs hl (TInv w.heap.size g o xs.length cap)
    (Lib.hid fun w1 es n b p h1 h2 h2' h3 h4 => treesClo w.heap.size g o xs.length cap w1 es n b p h1 h2 hl hcap h2' h3 h4)
    (Lib.hid fun w1 es v h => h.same (by simp [World.setCell]) (fun k hk _ => Below.heap_setCell _ _ _ _ (by simp; omega)))
    (Lib.hid fun w1 es o h => h.same (by simp) (fun k _ hk => Below.heap_alloc _ _ _ hk))
    f HF.out.symm _ HS.out hg (Nat.le_refl _) HC.out HI.out).mono ?_
  rintro e w2 ⟨rfl, ⟨h1, h2, h3, v, h4, h5⟩, q1, q2, q3, q4, q5⟩
  rw [tops_evs] at h5
  have hb := HB.out
  have HB2 : Hid (Below w.heap.size w w2) := Lib.hid ⟨q1.trans hb.os, q2.trans hb.tape, q3.trans hb.output, Nat.le_trans hb.size q4, fun k hk => (q5 k hk).trans (hb.block k hk)⟩
  have H5 := Lib.hid (h5.mono (show w.heap.size ≤ w.heap.size + 6 by omega))
  obtain ⟨A, c, rfl⟩ := h5.shape
  clear h5 h2 e1 hb q1 q2 q3 q4 q5
  go_wp2_with fail
  go_ret
  exact ⟨_, rfl, by simpa using H5.out, HB2.out⟩
end Go.Proofs.Ytgajknnfmnnfeaa
