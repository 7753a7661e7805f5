/- The model's LevelsOf. -/
import Derived.Test.YtnmmgpmhpjjehaaLfS0
import Derived.Test.YtnmmgpmhpjjehaaLfR
import Derived.Test.YtnmmgpmhpjjehaaMomS
import Derived.Test.YtnmmgpmhpjjehaaShS
import Derived.Test.YtnmmgpmhpjjehaaLvBox
import Derived.Test.YtnmmgpmhpjjehaaRot
import Derived.Deep.CutBlock
import Derived.Deep.RegionLaw
import Derived.IntWalk
import Derived.Deep.DeepCutAuto
import Derived.Outline
namespace Go.Proofs.Ytnmmgpmhpjjehaa
open Go.RowKit
set_option linter.unusedVariables false
/-- what stands in the middle of LevelsOf: the result's box at a, the levels' box at a + 1, their rows behind -/
structure LfAt (w : World) (a : Nat) (fs ds : List Int) (v u : Value) (W : World) : Prop where
  c0 : W.cell? ⟨a + 1, 0, none⟩ = some v
  c1 : W.cell? ⟨a + 1, 1, none⟩ = some u
  f0 : W.frozen? ⟨a + 1, 0, none⟩ = false
  f1 : W.frozen? ⟨a + 1, 1, none⟩ = false
  r0 : W.cell? ⟨a, 0, none⟩ = some (.slice none 0 0)
  r1 : W.cell? ⟨a, 1, none⟩ = some (.slice none 0 0)
  g0 : W.frozen? ⟨a, 0, none⟩ = false
  g1 : W.frozen? ⟨a, 1, none⟩ = false
  rF : IRow W (a + 2) v fs
  rD : IRow W (a + 2) u ds
  ne : ∀ q, v.ownBlock = some q → u.ownBlock ≠ some q
  size : a + 2 ≤ W.heap.size
  below : Below a w W
namespace LfAt
variable {w W W' : World} {a : Nat} {fs ds : List Int} {v u : Value}
theorem kept (h : LfAt w a fs ds v u W) (hb : Below W.heap.size W W') : LfAt w a fs ds v u W' := by
  have s := h.size
  exact ⟨(hb.cell (p := ⟨a + 1, 0, none⟩) (by show a + 1 < _; omega)).trans h.c0, (hb.cell (p := ⟨a + 1, 1, none⟩) (by show a + 1 < _; omega)).trans h.c1,
    (hb.frozen (p := ⟨a + 1, 0, none⟩) (by show a + 1 < _; omega)).trans h.f0, (hb.frozen (p := ⟨a + 1, 1, none⟩) (by show a + 1 < _; omega)).trans h.f1,
    (hb.cell (p := ⟨a, 0, none⟩) (by show a < _; omega)).trans h.r0, (hb.cell (p := ⟨a, 1, none⟩) (by show a < _; omega)).trans h.r1,
    (hb.frozen (p := ⟨a, 0, none⟩) (by show a < _; omega)).trans h.g0, (hb.frozen (p := ⟨a, 1, none⟩) (by show a < _; omega)).trans h.g1,
    h.rF.below hb, h.rD.below hb, h.ne, Nat.le_trans s hb.size, h.below.trans (hb.mono (by omega))⟩
theorem drew (h : LfAt w a fs ds v u W) : LfAt w a fs ds v u W.drew := h.kept (Below.refl _ _).drew
/-- one of the rows turned, or one that is new -/
theorem grown {r : Option Nat} (h : LfAt w a fs ds v u W) (hg : W.grownBy W' r) (hr : ∀ q, r = some q → a + 2 ≤ q) :
    (W'.cell? ⟨a + 1, 0, none⟩ = some v ∧ W'.cell? ⟨a + 1, 1, none⟩ = some u ∧ W'.frozen? ⟨a + 1, 0, none⟩ = false ∧ W'.frozen? ⟨a + 1, 1, none⟩ = false) ∧
    (W'.cell? ⟨a, 0, none⟩ = some (.slice none 0 0) ∧ W'.cell? ⟨a, 1, none⟩ = some (.slice none 0 0) ∧ W'.frozen? ⟨a, 0, none⟩ = false ∧ W'.frozen? ⟨a, 1, none⟩ = false) ∧ a + 2 ≤ W'.heap.size ∧ Below a w W' := by
  have s := h.size
  have n1 : some (a + 1) ≠ r := fun e => by have := hr _ e.symm; omega
  have n0 : some a ≠ r := fun e => by have := hr _ e.symm; omega
  exact ⟨⟨(cell_grownI hg (by omega) n1 0).trans h.c0, (cell_grownI hg (by omega) n1 1).trans h.c1, (frozen_grownI hg (by omega) n1 0).trans h.f0, (frozen_grownI hg (by omega) n1 1).trans h.f1⟩,
    ⟨(cell_grownI hg (by omega) n0 0).trans h.r0, (cell_grownI hg (by omega) n0 1).trans h.r1, (frozen_grownI hg (by omega) n0 0).trans h.g0, (frozen_grownI hg (by omega) n0 1).trans h.g1⟩,
    Nat.le_trans s hg.size, h.below.grown hg (by omega) (fun q hq => by have := hr q hq; omega)⟩
/-- what was appended to the first list is stored -/
theorem pushF {v' : Value} {fs' : List Int} (h : LfAt w a fs ds v u W) (hr : IRow W' (a + 2) v' fs') (hg : W.grownBy W' v.ownBlock) (hat : v'.ownBlock = v.ownBlock ∨ ∃ g, v'.ownBlock = some g ∧ W.heap.size ≤ g) :
    (W'.cell? ⟨a + 1, 0, none⟩ = some v ∧ W'.frozen? ⟨a + 1, 0, none⟩ = false) ∧ LfAt w a fs' ds v' u (W'.setCell ⟨a + 1, 0, none⟩ v') := by
  obtain ⟨⟨c0, c1, f0, f1⟩, ⟨r0, r1, g0, g1⟩, s, b⟩ := h.grown hg (fun q hq => (h.rF.blk q hq).1)
  have hu : IRow W' (a + 2) u ds := irow_kept2 h.rD hg (fun q hq => h.ne q hq)
  refine ⟨⟨c0, f0⟩, ⟨World.cell?_setCell_same' _ _ _ (by rw [c0]; rfl), (World.cell?_setCell_other _ _ _ _ (by simp)).trans c1, by rw [World.frozen?_setCell]; exact f0, by rw [World.frozen?_setCell]; exact f1,
    (World.cell?_setCell_other _ _ _ _ (by intro e; injection e with e; omega)).trans r0, (World.cell?_setCell_other _ _ _ _ (by intro e; injection e with e; omega)).trans r1, by rw [World.frozen?_setCell]; exact g0, by rw [World.frozen?_setCell]; exact g1,
    hr.low _ rfl (by show a + 1 < a + 2; omega) _, hu.low _ rfl (by show a + 1 < a + 2; omega) _, fun q hq e => ?_, by simpa [World.setCell] using s, b.setCell (p := ⟨a + 1, 0, none⟩) (by show a ≤ a + 1; omega) _⟩⟩
  rcases hat with e2 | ⟨g, e2, hge⟩
  · rw [e2] at hq
    exact h.ne q hq e
  · rw [e2] at hq
    injection hq with hq
    have := (h.rD.blk q e).2
    omega
theorem pushD {u' : Value} {ds' : List Int} (h : LfAt w a fs ds v u W) (hr : IRow W' (a + 2) u' ds') (hg : W.grownBy W' u.ownBlock) (hat : u'.ownBlock = u.ownBlock ∨ ∃ g, u'.ownBlock = some g ∧ W.heap.size ≤ g) :
    (W'.cell? ⟨a + 1, 1, none⟩ = some u ∧ W'.frozen? ⟨a + 1, 1, none⟩ = false) ∧ LfAt w a fs ds' v u' (W'.setCell ⟨a + 1, 1, none⟩ u') := by
  obtain ⟨⟨c0, c1, f0, f1⟩, ⟨r0, r1, g0, g1⟩, s, b⟩ := h.grown hg (fun q hq => (h.rD.blk q hq).1)
  have hu : IRow W' (a + 2) v fs := irow_kept2 h.rF hg (fun q hq e => h.ne q e hq)
  refine ⟨⟨c1, f1⟩, ⟨(World.cell?_setCell_other _ _ _ _ (by simp)).trans c0, World.cell?_setCell_same' _ _ _ (by rw [c1]; rfl), by rw [World.frozen?_setCell]; exact f0, by rw [World.frozen?_setCell]; exact f1,
    (World.cell?_setCell_other _ _ _ _ (by intro e; injection e with e; omega)).trans r0, (World.cell?_setCell_other _ _ _ _ (by intro e; injection e with e; omega)).trans r1, by rw [World.frozen?_setCell]; exact g0, by rw [World.frozen?_setCell]; exact g1,
    hu.low _ rfl (by show a + 1 < a + 2; omega) _, hr.low _ rfl (by show a + 1 < a + 2; omega) _, fun q hq e => ?_, by simpa [World.setCell] using s, b.setCell (p := ⟨a + 1, 1, none⟩) (by show a ≤ a + 1; omega) _⟩⟩
  rcases hat with e2 | ⟨g, e2, hge⟩
  · rw [e2] at e
    exact h.ne q hq e
  · rw [e2] at e
    injection e with e
    have := (h.rF.blk q hq).2
    omega
/-- a number of the first list is stored -/
theorem setF {g c : Nat} (h : LfAt w a fs ds (.slice (some ⟨g, 0, none⟩) fs.length c) u W) (j : Nat) (x : Int) : LfAt w a (fs.set j x) ds (.slice (some ⟨g, 0, none⟩) fs.length c) u (W.setCell ⟨g, j, none⟩ (.int .i64 x)) := by
  obtain ⟨hr, hg⟩ := h.rF.set j x
  obtain ⟨⟨c0, c1, f0, f1⟩, ⟨r0, r1, g0, g1⟩, s, b⟩ := h.grown (r := some g) hg (fun q hq => (h.rF.blk q hq).1)
  exact ⟨c0, c1, f0, f1, r0, r1, g0, g1, hr, irow_kept2 h.rD hg (fun q hq => h.ne q hq), h.ne, s, b⟩
theorem setD {g c : Nat} (h : LfAt w a fs ds v (.slice (some ⟨g, 0, none⟩) ds.length c) W) (j : Nat) (x : Int) : LfAt w a fs (ds.set j x) v (.slice (some ⟨g, 0, none⟩) ds.length c) (W.setCell ⟨g, j, none⟩ (.int .i64 x)) := by
  obtain ⟨hr, hg⟩ := h.rD.set j x
  obtain ⟨⟨c0, c1, f0, f1⟩, ⟨r0, r1, g0, g1⟩, s, b⟩ := h.grown (r := some g) hg (fun q hq => (h.rD.blk q hq).1)
  exact ⟨c0, c1, f0, f1, r0, r1, g0, g1, irow_kept2 h.rF hg (fun q hq e => h.ne q e hq), hr, h.ne, s, b⟩
end LfAt
theorem snocShape {w : World} {B : Nat} {v : Value} {fs : List Int} {x : Int} (h : IRow w B v (fs ++ [x])) : ∃ g n c, v = .slice (some ⟨g, 0, none⟩) n c ∧ Hid (n = fs.length + 1) ∧ fs.length + 1 ≤ n ∧ n ≤ fs.length + 1 := by
  obtain ⟨g, c, hv, _⟩ := h.form (by simp)
  exact ⟨g, _, c, hv, Lib.hid (by simp), by simp, by simp⟩
theorem LfAt.setF' {w W : World} {a g n c : Nat} {fs ds : List Int} {u : Value} {y : Int} (h : LfAt w a (fs ++ [y]) ds (.slice (some ⟨g, 0, none⟩) n c) u W) (hn : n = fs.length + 1) (j : Nat) (hj : j = fs.length) (x : Int) :
    LfAt w a (fs ++ [x]) ds (.slice (some ⟨g, 0, none⟩) n c) u (W.setCell ⟨g, j, none⟩ (.int .i64 x)) := by
  have e : n = (fs ++ [y]).length := by rw [hn]; simp
  subst e
  have := h.setF j x
  rwa [show (fs ++ [y]).set j x = fs ++ [x] by subst hj; simp] at this
theorem LfAt.setD' {w W : World} {a g n c : Nat} {fs ds : List Int} {v : Value} {y : Int} (h : LfAt w a fs (ds ++ [y]) v (.slice (some ⟨g, 0, none⟩) n c) W) (hn : n = ds.length + 1) (j : Nat) (hj : j = ds.length) (x : Int) :
    LfAt w a fs (ds ++ [x]) v (.slice (some ⟨g, 0, none⟩) n c) (W.setCell ⟨g, j, none⟩ (.int .i64 x)) := by
  have e : n = (ds ++ [y]).length := by rw [hn]; simp
  subst e
  have := h.setD j x
  rwa [show (ds ++ [y]).set j x = ds ++ [x] by subst hj; simp] at this
/-- the rows are handed back -/
theorem LfAt.done {w W : World} {fs ds : List Int} {v u : Value} {ok : Bool} (h : LfAt w w.heap.size fs ds v u W) :
    ((W.setCell ⟨w.heap.size, 0, none⟩ v).setCell ⟨w.heap.size, 1, none⟩ u).cell? ⟨w.heap.size, 0, none⟩ = some v ∧ ((W.setCell ⟨w.heap.size, 0, none⟩ v).setCell ⟨w.heap.size, 1, none⟩ u).cell? ⟨w.heap.size, 1, none⟩ = some u ∧
    LevsRet w ok fs ds (.returned (.tuple #[.agg #[v, u], .bool ok])) ((W.setCell ⟨w.heap.size, 0, none⟩ v).setCell ⟨w.heap.size, 1, none⟩ u) := by
  refine ⟨(World.cell?_setCell_other _ _ _ _ (by simp)).trans (World.cell?_setCell_same' _ _ _ (by rw [h.r0]; rfl)), World.cell?_setCell_same' _ _ _ (by rw [World.cell?_setCell_other _ _ _ _ (by simp), h.r1]; rfl), _, rfl, ⟨v, u, rfl, ?_, ?_, h.ne⟩, ?_⟩
  · exact ((h.rF.low _ rfl (by show w.heap.size < w.heap.size + 2; omega) _).low _ rfl (by show w.heap.size < w.heap.size + 2; omega) _).mono (by omega)
  · exact ((h.rD.low _ rfl (by show w.heap.size < w.heap.size + 2; omega) _).low _ rfl (by show w.heap.size < w.heap.size + 2; omega) _).mono (by omega)
  · exact (h.below.setCell (p := ⟨w.heap.size, 0, none⟩) (Nat.le_refl _) _).setCell (p := ⟨w.heap.size, 1, none⟩) (Nat.le_refl _) _
theorem LfAt.undone {w W : World} {fs ds : List Int} {v u : Value} {ok : Bool} (h : LfAt w w.heap.size fs ds v u W) :
    ((W.setCell ⟨w.heap.size, 0, none⟩ (.slice none 0 0)).setCell ⟨w.heap.size, 1, none⟩ (.slice none 0 0)).cell? ⟨w.heap.size, 0, none⟩ = some (.slice none 0 0) ∧ ((W.setCell ⟨w.heap.size, 0, none⟩ (.slice none 0 0)).setCell ⟨w.heap.size, 1, none⟩ (.slice none 0 0)).cell? ⟨w.heap.size, 1, none⟩ = some (.slice none 0 0) ∧
    LevsRet w ok [] [] (.returned (.tuple #[.agg #[.slice none 0 0, .slice none 0 0], .bool ok])) ((W.setCell ⟨w.heap.size, 0, none⟩ (.slice none 0 0)).setCell ⟨w.heap.size, 1, none⟩ (.slice none 0 0)) := by
  refine ⟨(World.cell?_setCell_other _ _ _ _ (by simp)).trans (World.cell?_setCell_same' _ _ _ (by rw [h.r0]; rfl)), World.cell?_setCell_same' _ _ _ (by rw [World.cell?_setCell_other _ _ _ _ (by simp), h.r1]; rfl), _, rfl, ⟨_, _, rfl, IRow.nil _ _, IRow.nil _ _, fun q hq => by cases hq⟩, ?_⟩
  exact (h.below.setCell (p := ⟨w.heap.size, 0, none⟩) (Nat.le_refl _) _).setCell (p := ⟨w.heap.size, 1, none⟩) (Nat.le_refl _) _
theorem lvB_mk {fs ds : List Int} (h1 : 1 ≤ fs.length ∧ fs.length ≤ 6) (h2 : ds.length = fs.length) (h3 : allB fs (-5) 5 = true) (h4 : allB ds 1 5 = true) : lvB fs ds = true := by
  unfold lvB
  rw [h3, h4, inB_yes (by omega), show (((ds.length : Nat) : Int) == ((fs.length : Nat) : Int)) = true by rw [h2]; simp]
  rfl
theorem set_last (fs : List Int) (y x : Int) (n : Nat) (hn : n = fs.length) : (fs ++ [y]).set n x = fs ++ [x] := by subst hn; simp
theorem box_undoneS {w W : World} {ok : Bool} (hb : Below w.heap.size w W) (r0 : W.cell? ⟨w.heap.size, 0, none⟩ = some (.slice none 0 0)) (r1 : W.cell? ⟨w.heap.size, 1, none⟩ = some (.slice none 0 0)) :
    ((W.setCell ⟨w.heap.size, 0, none⟩ (.slice none 0 0)).setCell ⟨w.heap.size, 1, none⟩ (.slice none 0 0)).cell? ⟨w.heap.size, 0, none⟩ = some (.slice none 0 0) ∧ ((W.setCell ⟨w.heap.size, 0, none⟩ (.slice none 0 0)).setCell ⟨w.heap.size, 1, none⟩ (.slice none 0 0)).cell? ⟨w.heap.size, 1, none⟩ = some (.slice none 0 0) ∧
    LevsRet w ok [] [] (.returned (.tuple #[.agg #[.slice none 0 0, .slice none 0 0], .bool ok])) ((W.setCell ⟨w.heap.size, 0, none⟩ (.slice none 0 0)).setCell ⟨w.heap.size, 1, none⟩ (.slice none 0 0)) := by
  refine ⟨(World.cell?_setCell_other _ _ _ _ (by simp)).trans (World.cell?_setCell_same' _ _ _ (by rw [r0]; rfl)), World.cell?_setCell_same' _ _ _ (by rw [World.cell?_setCell_other _ _ _ _ (by simp), r1]; rfl), _, rfl, ⟨_, _, rfl, IRow.nil _ _, IRow.nil _ _, fun q hq => by cases hq⟩, ?_⟩
  exact (hb.setCell (p := ⟨w.heap.size, 0, none⟩) (Nat.le_refl _) _).setCell (p := ⟨w.heap.size, 1, none⟩) (Nat.le_refl _) _
set_option maxRecDepth 100000 in
set_option maxHeartbeats 4000000 in
theorem specLevels_ret (v : Value) (ms : List Int) (w : World) (h : RInts w v ms) (hl : ms.length ≤ 1048576) :
    Calls Try.prog 58 #[v] w (LevsRet w (lfOk ms) (lfF ms) (lfD ms)) := by
  have hb0 : Below w.heap.size w (w.alloc (.cells #[.slice none 0 0, .slice none 0 0] 45)) := (Below.refl _ _).alloc (Nat.le_refl _) _
  have HG := Lib.hid (kiGood_any v ms _ (h.below hb0) hl)
  have H := Lib.hid h
  obtain ⟨A0, cap, rfl⟩ := h.shape
  clear h
  by_cases hc : ((momB ms && !(ms.length % 2 == 1)) && (ms.getD 0 0 == 1)) = true
  case neg =>
    obtain ⟨w1, hw1⟩ : ∃ w1, w1 = w.alloc (.cells #[.slice none 0 0, .slice none 0 0] 45) := ⟨_, rfl⟩
    have hb1 : Below w.heap.size w w1 := by rw [hw1]; exact hb0
    have r0 : w1.cell? ⟨w.heap.size, 0, none⟩ = some (.slice none 0 0) := by rw [hw1]; simp [go_sem]
    have r1 : w1.cell? ⟨w.heap.size, 1, none⟩ = some (.slice none 0 0) := by rw [hw1]; simp [go_sem]
    have g0 : w1.frozen? ⟨w.heap.size, 0, none⟩ = false := by rw [hw1]; simp [go_sem]
    have g1 : w1.frozen? ⟨w.heap.size, 1, none⟩ = false := by rw [hw1]; simp [go_sem]
    rw [← hw1] at HG
    have HW := Lib.hid hw1
    have HB1 := Lib.hid hb1
    clear hw1 hb1 hb0
    have e1 : lfOk ms = false := by unfold lfOk; rw [Bool.not_eq_true] at hc; rw [hc, Bool.false_and]
    rw [e1, (lf_no e1).1, (lf_no e1).2]
    clear e1
    obtain ⟨e0, e1, HF⟩ := box_undoneS (ok := false) HB1.out r0 r1
    have HFF := Lib.hid HF
    clear HF
    rcases Bool.eq_false_or_eq_true (momB ms) with a1 | a1
    · have hs8 := (momB_of a1).1
      obtain ⟨g, o, cc, hv, hg, hcells⟩ := H.out.cells (by omega)
      have hA : A0 = some ⟨g, o, none⟩ := by injection hv
      subst hA
      clear hv
      have k0 : w1.cell? ⟨g, o, none⟩ = some (.int .i64 (ms.getD 0 0)) := (HB1.out.cell (p := ⟨g, o + 0, none⟩) hg).trans (hcells 0 (by omega))
      rw [a1] at HG
      by_cases hod : ms.length % 2 = 0
      · have hod2 : ((ms.length : Int) % 2 == 1) = false := by rw [beq_eq_false_iff_ne]; omega
        have hm0 : ms.getD 0 0 ≠ 1 := fun e => hc (by rw [a1, e]; simp; omega)
        obtain ⟨x, hx⟩ : ∃ x, x = ms.getD 0 0 := ⟨_, rfl⟩
        rw [← hx] at k0 hm0
        have hx1 : (x == 1) = false := beq_eq_false_iff_ne.2 hm0
        have hx2 : (x != 1) = true := by rw [bne_iff_ne]; exact hm0
        clear hx hc a1 hcells hod
        go_enter Try.func58, Try.ntmps58
        go_wp2_with fail
        rw [← HW.out]
        go_at_call 89
        refine HG.out.mono ?_
        rintro e w' ⟨rfl, rfl⟩
        go_wp2_with fail
        refine bodyPost_ret (v := .tuple #[.agg #[.slice none 0 0, .slice none 0 0], .bool false]) ?_ rfl HFF.out
        generalize (w1.setCell ⟨w.heap.size, 0, none⟩ (.slice none 0 0)).setCell ⟨w.heap.size, 1, none⟩ (.slice none 0 0) = WF at *
        simp [results, Try.f58, go_sem, e0, e1]
      · have hod2 : ((ms.length : Int) % 2 == 1) = true := by rw [beq_iff_eq]; omega
        have hod4 : (ms.length : Int) % 2 = 1 := by omega
        clear hc a1 hcells hod
        go_enter Try.func58, Try.ntmps58
        go_wp2_with fail
        rw [← HW.out]
        go_at_call 89
        refine HG.out.mono ?_
        rintro e w' ⟨rfl, rfl⟩
        go_wp2_with fail
        refine bodyPost_ret (v := .tuple #[.agg #[.slice none 0 0, .slice none 0 0], .bool false]) ?_ rfl HFF.out
        generalize (w1.setCell ⟨w.heap.size, 0, none⟩ (.slice none 0 0)).setCell ⟨w.heap.size, 1, none⟩ (.slice none 0 0) = WF at *
        simp [results, Try.f58, go_sem, e0, e1]
    · rw [a1] at HG
      clear hc a1
      go_enter Try.func58, Try.ntmps58
      go_wp2_with fail
      rw [← HW.out]
      go_at_call 89
      refine HG.out.mono ?_
      rintro e w' ⟨rfl, rfl⟩
      go_wp2_with fail
      refine bodyPost_ret (v := .tuple #[.agg #[.slice none 0 0, .slice none 0 0], .bool false]) ?_ rfl HFF.out
      generalize (w1.setCell ⟨w.heap.size, 0, none⟩ (.slice none 0 0)).setCell ⟨w.heap.size, 1, none⟩ (.slice none 0 0) = WF at *
      simp [results, Try.f58, go_sem, e0, e1]
  have HC := Lib.hid hc
  simp only [Bool.and_eq_true, Bool.not_eq_true'] at hc
  have HC0 := Lib.hid hc
  obtain ⟨⟨a1, a2⟩, a3⟩ := hc
  have hs8 := (momB_of a1).1
  have hod : ((ms.length : Int) % 2 == 1) = false := by
    rw [beq_eq_false_iff_ne] at a2 ⊢
    omega
  obtain ⟨N, hN⟩ : ∃ N, N = ms.length / 2 := ⟨_, rfl⟩
  have hN2 : ms.length = 2 * N := by
    rw [beq_eq_false_iff_ne] at a2
    omega
  obtain ⟨g, o, cc, hv, hg, hcells⟩ := H.out.cells (by omega)
  have hA : A0 = some ⟨g, o, none⟩ := by injection hv
  subst hA
  clear hv
  have HCELL : Hid (∀ W, Below w.heap.size w W → ∀ j, j < ms.length → W.cell? ⟨g, o + j, none⟩ = some (.int .i64 (ms.getD j 0))) := Lib.hid fun W hW j hj => (hW.cell (p := ⟨g, o + j, none⟩) hg).trans (hcells j hj)
  have e0 := HCELL.out _ hb0 0 (by omega)
  rw [Nat.add_zero, beq_iff_eq.1 a3] at e0
  rw [a1] at HG
  have HR : Hid (lfR ms = lfS ms N) := Lib.hid (by rw [hN]; rfl)
  clear a1 a2 a3 hcells hN
  go_enter Try.func58, Try.ntmps58
  have hn1 : ms.length ≤ 2 * N := by omega
  have hn2 : 2 * N ≤ ms.length := by omega
  clear hN2
  go_wp2_with (go_at_call 89; refine HG.out.mono ?_; rintro e w' ⟨rfl, rfl⟩)
  obtain ⟨a, ha⟩ : ∃ a, a = w.heap.size := ⟨_, rfl⟩
  have HL0 : Hid (LfAt w w.heap.size [] [] (.slice none 0 0) (.slice none 0 0) ((w.alloc (.cells #[.slice none 0 0, .slice none 0 0] 45)).alloc (.cells #[.slice none 0 0, .slice none 0 0] 45))) := Lib.hid
    ⟨by simp [go_sem], by simp [go_sem], by simp [go_sem], by simp [go_sem], by simp [go_sem], by simp [go_sem], by simp [go_sem], by simp [go_sem], IRow.nil _ _, IRow.nil _ _, (fun q hq => by cases hq), by simp, ((Below.refl _ _).alloc (Nat.le_refl _) _).alloc (by simp) _⟩
  have HNONE : Hid (∀ h, h < N → lfS ms (h + 1) = none → lfOk ms = false ∧ lfF ms = [] ∧ lfD ms = []) := Lib.hid fun h hh e => by
    have e2 : lfR ms = none := by rw [HR.out]; have := lfS_none e (N - (h + 1)); rwa [show h + 1 + (N - (h + 1)) = N by omega] at this
    exact ⟨lf_none e2, lf_no (lf_none e2)⟩
  clear hb0 e0
  go_loopw [5] (fun i wr => ∃ (h : Nat) (fs ds : List Int) (v u : Value), h < N ∧ i = .int .i64 (h : Int) ∧ LfAt w w.heap.size fs ds v u wr ∧ Hid (lfS ms h = some (fs, ds))) (fun i _ => ms.length + 2 - (intOf i).toNat)
  case atStart => exact ⟨0, [], [], _, _, by omega, rfl, HL0.out, Lib.hid rfl⟩
  case round =>
    obtain ⟨h, fs, ds, v, u, hh, rfl, hat, HS⟩ := hrel
    clear HL0
    obtain ⟨l1, l2, l3, l4⟩ := lfS_ok _ _ _ HS.out
    have HALL := Lib.hid (And.intro l3 l4)
    have q1 : fs.length ≤ 4 := by omega
    have q2 : ds.length ≤ 4 := by omega
    have L1 := Lib.hid l1
    have L2 := Lib.hid l2
    clear l1 l2 l3 l4
    have sz0 := hat.size
    have c0 := hat.c0
    have c1 := hat.c1
    have f0 := hat.f0
    have f1 := hat.f1
    have hrF := hat.rF
    obtain ⟨Av, cv, rfl⟩ := hat.rF.shape
    obtain ⟨Au, cu, rfl⟩ := hat.rD.shape
    have i1 : 2 * (h : Int) < (ms.length : Int) := by omega
    have HA := Lib.hid hat
    clear hat
    go_upto_region 8 with (at_builtin; refine wpList_push (.tmp 35) (.tmp 36) rfl rfl (w.heap.size + 2) _ fs rfl hrF rfl (by omega) sz0 ?_; intro v1 w1 hr1 hg1 hat1; obtain ⟨⟨d0, d1⟩, hat2⟩ := HA.out.pushF hr1 hg1 hat1; obtain ⟨ga, na, ca, rfl, HNA, na1, na2⟩ := snocShape hr1)
    have HA1 := Lib.hid hat2
    clear hat2 hr1 hg1 hat1 d0 d1 hrF HA c0 c1 f0 f1
    refine wp_nameM (LfAt w w.heap.size (fs ++ [0]) ds (.slice (some ⟨ga, 0, none⟩) na ca) (.slice Au ds.length cu)) HA1.out ?_
    clear HA1
    intro X hX
    have sz1 := hX.size
    have c0 := hX.c0
    have c1 := hX.c1
    have f0 := hX.f0
    have f1 := hX.f1
    have hrD := hX.rD
    have HX := Lib.hid hX
    clear hX
    go_upto_region 9 with (at_builtin; refine wpList_push (.tmp 40) (.tmp 41) rfl rfl (w.heap.size + 2) _ ds rfl hrD rfl (by omega) sz1 ?_; intro v2 w2 hr2 hg2 hat2; obtain ⟨⟨d0, d1⟩, hat3⟩ := HX.out.pushD hr2 hg2 hat2; obtain ⟨gb, nb, cb, rfl, HNB, nb1, nb2⟩ := snocShape hr2)
    have HA1 := Lib.hid hat3
    clear hat3 hr2 hg2 hat2 d0 d1 hrD HX c0 c1 f0 f1
    refine wp_nameM (LfAt w w.heap.size (fs ++ [0]) (ds ++ [1]) (.slice (some ⟨ga, 0, none⟩) na ca) (.slice (some ⟨gb, 0, none⟩) nb cb)) HA1.out ?_
    clear HA1
    intro X2 hX
    have HX2 := Lib.hid hX
    clear hX sz1 sz0
    go_upto_block 2 with fail
    go_cut [6, 7] from 27 to 126 (fun f x wx => ∃ (y : Int) (b : Bool) (z : Value), f = .bool b ∧ x = z ∧ LfAt w w.heap.size (fs ++ [y]) (ds ++ [1]) (.slice (some ⟨ga, 0, none⟩) na ca) (.slice (some ⟨gb, 0, none⟩) nb cb) wx ∧ LfFound (pF ms fs ds) 11 (-5) y b)
    case first =>
      go_wp2_with fail
      go_loopw [6, 7] (fun f x wq => ∃ (k : Nat) (y : Int) (b : Bool), k ≤ 11 ∧ x = .int .i64 (-5 + (k : Int)) ∧ f = .bool b ∧ LfAt w w.heap.size (fs ++ [y]) (ds ++ [1]) (.slice (some ⟨ga, 0, none⟩) na ca) (.slice (some ⟨gb, 0, none⟩) nb cb) wq ∧ LfTry (pF ms fs ds) 11 k (-5) y b) (fun _ x _ => (6 - intOf x).toNat)
      case atStart => exact ⟨0, 0, false, by omega, rfl, rfl, HX2.out, .inr ⟨rfl, rfl⟩⟩
      case round =>
        obtain ⟨k, y, b, hk, rfl, rfl, hat, htry⟩ := hrel
        clear HX2
        cases b with
        | true =>
          have HF := Lib.hid htry.yes
          have HA := Lib.hid hat
          clear htry hat
          by_cases hk2 : k = 11
          · subst hk2
            go_wp2_with fail
            go_meet
            exact ⟨y, true, _, rfl, rfl, HA.out, HF.out⟩
          · have i2 : -5 + (k : Int) ≤ 5 := by omega
            go_wp2_with fail
            go_meet
            exact ⟨y, true, _, rfl, rfl, HA.out, HF.out⟩
        | false =>
          by_cases hk2 : k = 11
          · subst hk2
            have HF := Lib.hid (htry.no (Nat.le_refl _))
            have HA := Lib.hid hat
            clear htry hat
            go_wp2_with fail
            go_meet
            exact ⟨y, false, _, rfl, rfl, HA.out, HF.out⟩
          · have i2 : -5 + (k : Int) ≤ 5 := by omega
            have HN := Lib.hid (htry.next (by omega))
            clear htry
            have c0 := hat.c0
            have e1 := hat.rF.cell (j := h) (by rw [List.length_append, L1.out]; simp)
            have e2 := hat.rF.free h
            have i3 : (h : Int) < (na : Int) := by have := L1.out; omega
            have HA := Lib.hid (hat.setF' HNA.out h L1.out.symm (-5 + (k : Int)))
            generalize (fs ++ [y]).getD h 0 = z0 at *
            clear hat
            go_upto_region 14 with fail
            refine wp_nameM (LfAt w w.heap.size (fs ++ [-5 + (k : Int)]) (ds ++ [1]) (.slice (some ⟨ga, 0, none⟩) na ca) (.slice (some ⟨gb, 0, none⟩) nb cb)) HA.out ?_
            clear HA c0 e1 e2
            intro X3 hX
            have c0 := hX.c0
            have c1 := hX.c1
            have HX3 := Lib.hid hX
            have HY := Lib.hid hX.drew
            have HB3 : Hid (Below w.heap.size w X3) := Lib.hid hX.below
            obtain ⟨L, hL⟩ : ∃ L, L = momL (fs ++ [-5 + (k : Int)]) (ds ++ [1]) (2 * h + 2) := ⟨_, rfl⟩
            have hLn : L.length = 2 * h + 2 := by rw [hL]; exact fr_length _ _
            have HLG : Hid (L.getD (2 * h + 1) 0 = moM (fs ++ [-5 + (k : Int)]) (ds ++ [1]) (2 * h + 1)) := Lib.hid (by rw [hL]; exact fr_get _ _ _ (by omega))
            have HMO : Hid (Calls Try.prog 88 #[.agg #[.slice (some ⟨ga, 0, none⟩) na ca, .slice (some ⟨gb, 0, none⟩) nb cb], .int .i64 (2 * (h : Int) + 2)] X3.drew (IntsNew X3.drew L)) := Lib.hid (by
              have := kiMoments_any _ _ (fs ++ [-5 + (k : Int)]) (ds ++ [1]) (2 * h + 2) X3.drew (RInts.of_row HY.out.rF) (RInts.of_row HY.out.rD) (lvB_mk (by simp; omega) (by simp [L1.out, L2.out]) (allB_snoc HALL.out.1 (by omega)) (allB_snoc HALL.out.2 (by omega))) (by omega)
              rw [hL]
              rw [show ((2 * h + 2 : Nat) : Int) = 2 * (h : Int) + 2 by omega] at this
              exact this)
            have HP : Hid (pF ms fs ds k = (L.getD (2 * h + 1) 0 == ms.getD (2 * h + 1) 0)) := Lib.hid (by rw [HLG.out, pF, L1.out])
            have HMC : Hid (∀ W, Below X3.heap.size X3 W → W.cell? ⟨g, o + (2 * h + 1), none⟩ = some (.int .i64 (ms.getD (2 * h + 1) 0))) := Lib.hid fun W hW => HCELL.out W (HB3.out.trans (hW.mono HB3.out.size)) (2 * h + 1) (by omega)
            have HLN := Lib.hid hLn
            have m0 := HMC.out X3 (Below.refl _ _)
            have HLC : Hid (∀ (W : World) (B gg cc : Nat), IRow W B (.slice (some ⟨gg, 0, none⟩) (2 * h + 2) cc) L → W.cell? ⟨gg, 2 * h + 1, none⟩ = some (.int .i64 (L.getD (2 * h + 1) 0))) := Lib.hid fun W B gg cc hr => hr.cell (by rw [HLN.out]; omega)
            clear hX hL hLn
            generalize L.getD (2 * h + 1) 0 = y1 at *
            generalize ms.getD (2 * h + 1) 0 = y2 at *
            have k1 := IntWalk.i64_in (2 * (h : Int)) (by omega)
            have k2 := IntWalk.i64_in (2 * (h : Int) + 1) (by omega)
            have k3 := IntWalk.i64_in (2 * (h : Int) + 2) (by omega)
            have k4 : (2 * (h : Int) + 1).toNat = 2 * h + 1 := by omega
            have k5 : 0 ≤ 2 * (h : Int) + 1 := by omega
            have k6 : 2 * (h : Int) + 1 < (ms.length : Int) := by omega
            have k7 : 2 * (h : Int) + 1 < 2 * (h : Int) + 2 := by omega
            go_region_law (go_simp; go_at_call 88; refine HMO.out.mono ?_; rintro e w3 ⟨v3, rfl, hr3, hb3⟩; obtain ⟨g3, c3, rfl, hg3⟩ := hr3.form' HLN.out (by omega); have e5 := HLC.out _ _ _ _ hr3; have e6 := HMC.out w3 ((Below.refl _ _).drew.trans hb3))
            all_goals (go_wp2_with fail)
            all_goals exact ⟨⟨k + 1, -5 + (k : Int), y1 == y2, by omega, by rw [show -5 + (k : Int) + 1 = -5 + ((k + 1 : Nat) : Int) by omega], rfl, HY.out.kept hb3, by rw [← HP.out]; exact HN.out⟩, by simp [intOf]; omega⟩
    case rest =>
      obtain ⟨y, b, z, rfl, rfl, hat, hf⟩ := hcut
      rcases hf with ⟨rfl, j, ej, rfl⟩ | ⟨rfl, ej⟩
      · have hj := ffG_lt _ _ _ ej
        have hj2 : j < 11 := by omega
        clear hj
        by_cases hlast : 2 * h + 2 = ms.length
        · have HE : Hid (lfOk ms = true ∧ lfF ms = fs ++ [-5 + (j : Int)] ∧ lfD ms = ds ++ [1]) := Lib.hid (lf_yes HC.out (by
            rw [HR.out, show N = h + 1 by omega, lfS_succ HS.out, lfT, ej]
            simp only [if_pos hlast]))
          have j1 : 2 * (h : Int) + 2 = (ms.length : Int) := by omega
          have j2 : (2 * (h : Int) + 2 == (ms.length : Int)) = true := by rw [beq_iff_eq]; exact j1
          clear hlast j1
          have c0 := hat.c0
          have c1 := hat.c1
          have r0 := hat.r0
          have r1 := hat.r1
          have g0 := hat.g0
          have g1 := hat.g1
          obtain ⟨e0, e1, HF⟩ := hat.done (ok := true)
          have HFF := Lib.hid HF
          clear hat HX2 HF
          go_wp2_with fail
          rw [HE.out.1, HE.out.2.1, HE.out.2.2]
          refine bodyPost_ret (v := .tuple #[.agg #[.slice (some ⟨ga, 0, none⟩) na ca, .slice (some ⟨gb, 0, none⟩) nb cb], .bool true]) ?_ rfl HFF.out
          generalize (wc.setCell ⟨w.heap.size, 0, none⟩ (.slice (some ⟨ga, 0, none⟩) na ca)).setCell ⟨w.heap.size, 1, none⟩ (.slice (some ⟨gb, 0, none⟩) nb cb) = WF at *
          simp [results, Try.f58, go_sem, e0, e1]
        · have j2 : (2 * (h : Int) + 2 == (ms.length : Int)) = false := by rw [beq_eq_false_iff_ne]; omega
          have hh2 : h + 1 < N := by omega
          have HLA := Lib.hid hlast
          have HA := Lib.hid hat
          have c0 := hat.c0
          have HEJ := Lib.hid ej
          obtain ⟨fs1, hfs1⟩ : ∃ l, l = fs ++ [-5 + (j : Int)] := ⟨_, rfl⟩
          have HF1 := Lib.hid hfs1
          have L3 : Hid (fs1.length = h + 1) := Lib.hid (by rw [hfs1]; simp [L1.out])
          have HAL1 : Hid (allB fs1 (-5) 5 = true) := Lib.hid (by rw [hfs1]; exact allB_snoc HALL.out.1 (by omega))
          rw [← hfs1] at hat
          have HA2 := Lib.hid hat
          have q3 : fs1.length ≤ 5 := by have := L3.out; omega
          clear hat HX2 hlast ej hfs1 HA c0
          go_upto_block 4 with fail
          go_cut [6, 8, 9] from 27 to 126 (fun f x l wx => ∃ (y : Int) (b : Bool) (z1 z2 : Value), f = .bool b ∧ x = z1 ∧ l = z2 ∧ LfAt w w.heap.size fs1 (ds ++ [y]) (.slice (some ⟨ga, 0, none⟩) na ca) (.slice (some ⟨gb, 0, none⟩) nb cb) wx ∧ LfFound (pD ms fs1 ds) 5 1 y b)
          case first =>
            go_wp2_with fail
            go_loopw [6, 8, 9] (fun f x l wq => ∃ (k : Nat) (y : Int) (b : Bool) (z : Value), k ≤ 5 ∧ x = .int .i64 (1 + (k : Int)) ∧ f = .bool b ∧ l = z ∧ LfAt w w.heap.size fs1 (ds ++ [y]) (.slice (some ⟨ga, 0, none⟩) na ca) (.slice (some ⟨gb, 0, none⟩) nb cb) wq ∧ LfTry (pD ms fs1 ds) 5 k 1 y b) (fun _ x _ _ => (6 - intOf x).toNat)
            case atStart => exact ⟨0, 1, false, _, by omega, rfl, rfl, rfl, HA2.out, .inr ⟨rfl, rfl⟩⟩
            case round =>
              obtain ⟨k, y, b, zl, hk, rfl, rfl, rfl, hat, htry⟩ := hrel
              clear HA2
              cases b with
              | true =>
                have HF := Lib.hid htry.yes
                have HA := Lib.hid hat
                clear htry hat
                by_cases hk2 : k = 5
                · subst hk2
                  go_wp2_with fail
                  go_meet
                  exact ⟨y, true, _, _, rfl, rfl, rfl, HA.out, HF.out⟩
                · have i2 : 1 + (k : Int) ≤ 5 := by omega
                  go_wp2_with fail
                  go_meet
                  exact ⟨y, true, _, _, rfl, rfl, rfl, HA.out, HF.out⟩
              | false =>
                by_cases hk2 : k = 5
                · subst hk2
                  have HF := Lib.hid (htry.no (Nat.le_refl _))
                  have HA := Lib.hid hat
                  clear htry hat
                  go_wp2_with fail
                  go_meet
                  exact ⟨y, false, _, _, rfl, rfl, rfl, HA.out, HF.out⟩
                · have i2 : 1 + (k : Int) ≤ 5 := by omega
                  have HN := Lib.hid (htry.next (by omega))
                  clear htry
                  have c0 := hat.c1
                  have e1 := hat.rD.cell (j := h) (by rw [List.length_append, L2.out]; simp)
                  have e2 := hat.rD.free h
                  have i3 : (h : Int) < (nb : Int) := by have := L2.out; omega
                  have HA := Lib.hid (hat.setD' HNB.out h L2.out.symm (1 + (k : Int)))
                  generalize (ds ++ [y]).getD h 0 = z0 at *
                  clear hat
                  go_upto_region 23 with fail
                  refine wp_nameM (LfAt w w.heap.size fs1 (ds ++ [1 + (k : Int)]) (.slice (some ⟨ga, 0, none⟩) na ca) (.slice (some ⟨gb, 0, none⟩) nb cb)) HA.out ?_
                  clear HA c0 e1 e2
                  intro X3 hX
                  have HX3 := Lib.hid hX
                  clear hX
                  have HOWN1 : Hid (∀ W, Below X3.heap.size X3 W → Calls Try.prog 95 #[.slice (some ⟨ga, 0, none⟩) na ca] W (IntsNew W fs1)) := Lib.hid fun W hb => by
                    have r := HX3.out.rF.below hb
                    have e : na = fs1.length := by have := L1.out; have := L3.out; omega
                    rw [e] at r ⊢
                    exact l1Own_any ga 0 ca fs1 W (r.blk ga rfl).2 (fun j hj => by rw [Nat.zero_add]; exact r.cell hj) (by omega)
                  have HOWN2 : Hid (∀ W, Below X3.heap.size X3 W → Calls Try.prog 95 #[.slice (some ⟨gb, 0, none⟩) nb cb] W (IntsNew W (ds ++ [1 + (k : Int)]))) := Lib.hid fun W hb => by
                    have r := HX3.out.rD.below hb
                    have e : nb = (ds ++ [1 + (k : Int)]).length := by rw [List.length_append]; simp; omega
                    rw [e] at r ⊢
                    exact l1Own_any gb 0 cb _ W (r.blk gb rfl).2 (fun j hj => by rw [Nat.zero_add]; exact r.cell hj) (by simp; omega)
                  refine wp_region_inv2 (fun a0 L a W => ∃ u : Nat → Value, a = ((((((((((((a0.put (some 96) (u 0)).put (some 97) (u 1)).put (some 98) (u 2)).put (some 99) (u 3)).put (some 100) (u 4)).put (some 101) (u 5)).put (some 102) (u 6)).put (some 103) (u 7)).put (some 104) (u 8)).put (some 105) (u 9)).put (some 106) (u 10)).put (some 9) (u 11)) ∧ R23 X3 (w.heap.size + 1) (.slice (some ⟨ga, 0, none⟩) na ca) (.slice (some ⟨gb, 0, none⟩) nb cb) fs1 (ds ++ [1 + (k : Int)]) L W u) (by kernel_rfl) (by kernel_rfl) ?_ ?_ ?_
                  · refine ⟨fun i => ([u96, u97, u98, u99, u100, u101, u102, u103, u104, u105, u106, u9] : List Value).getD i undef, ?_, R23.start⟩
                    simp only [Act.put, List.setIfInBounds_toArray, List.set_cons_succ, List.set_cons_zero]
                    rfl
                  · rintro i op hop L a' W ⟨u, rfl, hF⟩ hL hdep
                    have hsz := HX3.out.size
                    have hsb := hF.below.size
                    match i, hop with
                    | 0, hop =>
                      simp at hop; subst hop
                      refine wpOp_run rfl rfl ?_
                      simp only [Act.put, List.setIfInBounds_toArray, List.set_cons_succ, List.set_cons_zero]
                      go_simp
                      refine ⟨_, ?_, hF.slot 0 _ (.inl ⟨rfl, rfl⟩)⟩
                      simp [upv]
                    | 1, hop =>
                      simp at hop; subst hop
                      refine wpOp_run rfl rfl ?_
                      simp only [Act.put, List.setIfInBounds_toArray, List.set_cons_succ, List.set_cons_zero]
                      have e0 := hF.p0 (hdep ⟨0, .data⟩ (by simp) rfl)
                      have c0 := (HX3.out.kept hF.below).c0
                      simp only [e0]
                      go_simp
                      refine ⟨_, ?_, hF.slot 1 _ (.inr (.inl ⟨rfl, rfl⟩))⟩
                      simp only [← e0]
                      simp [upv]
                    | 2, hop =>
                      simp at hop; subst hop
                      refine wpOp_run rfl rfl ?_
                      simp only [Act.put, List.setIfInBounds_toArray, List.set_cons_succ, List.set_cons_zero]
                      have e1 := hF.p1 (hdep ⟨1, .data⟩ (by simp) rfl)
                      simp only [e1]
                      go_simp
                      go_at_call 95
                      refine (HOWN1.out W hF.below).mono ?_
                      rintro e w3 ⟨x, rfl, hr3, hb3⟩
                      refine ⟨_, ?_, hF.new 2 (.inl rfl) hb3 x hr3⟩
                      simp only [← e1]
                      simp [upv]
                    | 3, hop =>
                      simp at hop; subst hop
                      refine wpOp_run rfl rfl ?_
                      simp only [Act.put, List.setIfInBounds_toArray, List.set_cons_succ, List.set_cons_zero]
                      go_simp
                      refine ⟨_, ?_, hF.new 3 (.inr (.inl rfl)) ((Below.refl W.heap.size W).alloc (Nat.le_refl _) _) _ (lit_row W 0)⟩
                      simp [upv]
                    | 4, hop =>
                      simp at hop; subst hop
                      refine wpOp_run rfl rfl ?_
                      simp only [Act.put, List.setIfInBounds_toArray, List.set_cons_succ, List.set_cons_zero]
                      have d2 := hdep ⟨2, .data⟩ (by simp) rfl
                      have d3 := hdep ⟨3, .data⟩ (by simp) rfl
                      refine op_pushB (.tmp 98) (.tmp 99) rfl X3.heap.size (u 2) (u 3) fs1 0 rfl rfl (hF.row 2 (by simp [liv, d2, hL])) (hF.row 3 (by simp [liv, d3, hL])) (by omega) hsb ?_
                      intro v' w' h1 h2 h3
                      refine ⟨_, ?_, hF.app 4 2 3 (.inl ⟨rfl, rfl, rfl⟩) hL d2 d3 v' h2 h1 h3⟩
                      simp only [Act.put, List.setIfInBounds_toArray]
                      simp [upv]
                    | 5, hop =>
                      simp at hop; subst hop
                      refine wpOp_run rfl rfl ?_
                      simp only [Act.put, List.setIfInBounds_toArray, List.set_cons_succ, List.set_cons_zero]
                      go_simp
                      refine ⟨_, ?_, hF.slot 5 _ (.inr (.inr (.inl ⟨rfl, rfl⟩)))⟩
                      simp [upv]
                    | 6, hop =>
                      simp at hop; subst hop
                      refine wpOp_run rfl rfl ?_
                      simp only [Act.put, List.setIfInBounds_toArray, List.set_cons_succ, List.set_cons_zero]
                      have e0 := hF.p5 (hdep ⟨5, .data⟩ (by simp) rfl)
                      have c1 := (HX3.out.kept hF.below).c1
                      simp only [e0]
                      go_simp
                      refine ⟨_, ?_, hF.slot 6 _ (.inr (.inr (.inr ⟨rfl, rfl⟩)))⟩
                      simp only [← e0]
                      simp [upv]
                    | 7, hop =>
                      simp at hop; subst hop
                      refine wpOp_run rfl rfl ?_
                      simp only [Act.put, List.setIfInBounds_toArray, List.set_cons_succ, List.set_cons_zero]
                      have e1 := hF.p6 (hdep ⟨6, .data⟩ (by simp) rfl)
                      simp only [e1]
                      go_simp
                      go_at_call 95
                      refine (HOWN2.out W hF.below).mono ?_
                      rintro e w3 ⟨x, rfl, hr3, hb3⟩
                      refine ⟨_, ?_, hF.new 7 (.inr (.inr (.inl rfl))) hb3 x hr3⟩
                      simp only [← e1]
                      simp [upv]
                    | 8, hop =>
                      simp at hop; subst hop
                      refine wpOp_run rfl rfl ?_
                      simp only [Act.put, List.setIfInBounds_toArray, List.set_cons_succ, List.set_cons_zero]
                      go_simp
                      refine ⟨_, ?_, hF.new 8 (.inr (.inr (.inr rfl))) ((Below.refl W.heap.size W).alloc (Nat.le_refl _) _) _ (lit_row W 1)⟩
                      simp [upv]
                    | 9, hop =>
                      simp at hop; subst hop
                      refine wpOp_run rfl rfl ?_
                      simp only [Act.put, List.setIfInBounds_toArray, List.set_cons_succ, List.set_cons_zero]
                      have d7 := hdep ⟨7, .data⟩ (by simp) rfl
                      have d8 := hdep ⟨8, .data⟩ (by simp) rfl
                      refine op_pushB (.tmp 103) (.tmp 104) rfl X3.heap.size (u 7) (u 8) (ds ++ [1 + (k : Int)]) 1 rfl rfl (hF.row 7 (by simp [liv, d7, hL])) (hF.row 8 (by simp [liv, d8, hL])) (by simp; omega) hsb ?_
                      intro v' w' h1 h2 h3
                      refine ⟨_, ?_, hF.app 9 7 8 (.inr ⟨rfl, rfl, rfl⟩) hL d7 d8 v' h2 h1 h3⟩
                      simp only [Act.put, List.setIfInBounds_toArray]
                      simp [upv]
                    | 10, hop =>
                      simp at hop; subst hop
                      refine wpOp_run rfl rfl ?_
                      simp only [Act.put, List.setIfInBounds_toArray, List.set_cons_succ, List.set_cons_zero]
                      have d4 := hdep ⟨4, .data⟩ (by simp) rfl
                      have d9 := hdep ⟨9, .data⟩ (by simp) rfl
                      obtain ⟨g4, c4, e4, _, _⟩ := (hF.row 4 (by simp [liv, d4])).form' (n := fs1.length + 1) (by simp [rowX]) (by omega)
                      obtain ⟨g9, c9, e9, _, _⟩ := (hF.row 9 (by simp [liv, d9])).form' (n := ds.length + 2) (by simp [rowX]) (by omega)
                      have HB := hF.build d4 d9 hL
                      rw [e4, e9] at HB
                      simp only [e4, e9]
                      go_simp
                      refine ⟨_, ?_, HB⟩
                      simp only [← e4, ← e9]
                      simp [upv]
                    | 11, hop =>
                      simp at hop; subst hop
                      refine wpOp_run rfl rfl ?_
                      simp only [Act.put, List.setIfInBounds_toArray, List.set_cons_succ, List.set_cons_zero]
                      go_simp
                      refine ⟨_, ?_, hF.box hL⟩
                      simp [upv]
                    | 12, hop =>
                      simp at hop; subst hop
                      refine wpOp_run rfl rfl ?_
                      simp only [Act.put, List.setIfInBounds_toArray, List.set_cons_succ, List.set_cons_zero]
                      have d10 := hdep ⟨10, .data⟩ (by simp) rfl
                      have d11 := hdep ⟨11, .data⟩ (by simp) rfl
                      obtain ⟨e10, d4, d9⟩ := hF.f10 d10
                      obtain ⟨b, e11, k2, k3, _, k5, _⟩ := hF.f11 d11
                      obtain ⟨b0, b1, b2, b3⟩ := R23.box_cells2 (k5 hL)
                      obtain ⟨g4, c4, e4, _, _⟩ := (hF.row 4 (by simp [liv, d4])).form' (n := fs1.length + 1) (by simp [rowX]) (by omega)
                      obtain ⟨g9, c9, e9, _, _⟩ := (hF.row 9 (by simp [liv, d9])).form' (n := ds.length + 2) (by simp [rowX]) (by omega)
                      have HST := hF.store e11 d10 d11 hL
                      rw [e4, e9] at HST e10
                      simp only [e10, e11]
                      clear hF k5
                      go_simp
                      refine ⟨_, ?_, HST⟩
                      simp only [← e10, ← e11]
                      simp [e4, e9]
                    | n + 13, hop => simp at hop
                  · rintro L a' W hall ⟨u, rfl, hF⟩
                    have l4 := hall 4 (by simp)
                    have l9 := hall 9 (by simp)
                    have r4 : IRow W X3.heap.size (u 4) (fs1 ++ [0]) := hF.row 4 (by simp [liv, l4])
                    have r9 : IRow W X3.heap.size (u 9) (ds ++ [1 + (k : Int)] ++ [1]) := hF.row 9 (by simp [liv, l9])
                    obtain ⟨b, e11, k2, k3, _, _, k6⟩ := hF.f11 (hall 11 (by simp))
                    obtain ⟨b0, b1⟩ := k6 (hall 12 (by simp))
                    have hbX := hF.below
                    obtain ⟨g4, c4, e4, _, _⟩ := r4.form' (n := h + 2) (by simp [L3.out]) (by omega)
                    obtain ⟨g9, c9, e9, _, _⟩ := r9.form' (n := h + 2) (by simp [L2.out]) (by omega)
                    clear hF hall k6 l4 l9
                    rw [e4] at r4 b0
                    rw [e9] at r9 b1
                    simp only [Act.put, List.setIfInBounds_toArray, List.set_cons_succ, List.set_cons_zero]
                    simp only [e11, e4, e9]
                    generalize u 0 = x0 at *
                    generalize u 1 = x1 at *
                    generalize u 2 = x2 at *
                    generalize u 3 = x3 at *
                    generalize u 5 = x5 at *
                    generalize u 6 = x6 at *
                    generalize u 7 = x7 at *
                    generalize u 8 = x8 at *
                    generalize u 10 = x10 at *
                    clear e11 e4 e9
                    have HY := Lib.hid (HX3.out.kept hbX).drew
                    have HB3 : Hid (Below w.heap.size w W) := Lib.hid (HX3.out.kept hbX).below
                    have hsz3 : w.heap.size ≤ W.heap.size := HB3.out.size
                    obtain ⟨M, hM⟩ : ∃ M, M = momL (fs1 ++ [0]) (ds ++ [1 + (k : Int)] ++ [1]) (2 * h + 3) := ⟨_, rfl⟩
                    have hMn : M.length = 2 * h + 3 := by rw [hM]; exact fr_length _ _
                    have HLG : Hid (M.getD (2 * h + 2) 0 = moM (fs1 ++ [0]) (ds ++ [1 + (k : Int)] ++ [1]) (2 * h + 2)) := Lib.hid (by rw [hM]; exact fr_get _ _ _ (by omega))
                    have HMO : Hid (Calls Try.prog 88 #[.agg #[.slice (some ⟨g4, 0, none⟩) (h + 2) c4, .slice (some ⟨g9, 0, none⟩) (h + 2) c9], .int .i64 (2 * (h : Int) + 3)] W.drew (IntsNew W.drew M)) := Lib.hid (by
                      have := kiMoments_any _ _ (fs1 ++ [0]) (ds ++ [1 + (k : Int)] ++ [1]) (2 * h + 3) W.drew (RInts.of_row (r4.below (Below.refl _ _).drew)) (RInts.of_row (r9.below (Below.refl _ _).drew)) (lvB_mk (by simp [L3.out]; omega) (by simp [L2.out, L3.out]) (allB_snoc HAL1.out (by omega)) (allB_snoc (allB_snoc HALL.out.2 (by omega)) (by omega))) (by omega)
                      rw [hM]
                      rw [show ((2 * h + 3 : Nat) : Int) = 2 * (h : Int) + 3 by omega] at this
                      exact this)
                    have HP : Hid (pD ms fs1 ds k = (M.getD (2 * h + 2) 0 == ms.getD (2 * h + 2) 0)) := Lib.hid (by rw [HLG.out, pD, L2.out])
                    have HMC : Hid (∀ Y, Below W.heap.size W Y → Y.cell? ⟨g, o + (2 * h + 2), none⟩ = some (.int .i64 (ms.getD (2 * h + 2) 0))) := Lib.hid fun Y hW => HCELL.out Y (HB3.out.trans (hW.mono HB3.out.size)) (2 * h + 2) (by omega)
                    have HLN := Lib.hid hMn
                    have m0 := HMC.out W (Below.refl _ _)
                    have HLC : Hid (∀ (Y : World) (B gg cc : Nat), IRow Y B (.slice (some ⟨gg, 0, none⟩) (2 * h + 3) cc) M → Y.cell? ⟨gg, 2 * h + 2, none⟩ = some (.int .i64 (M.getD (2 * h + 2) 0))) := Lib.hid fun Y B gg cc hr => hr.cell (by rw [HLN.out]; omega)
                    clear hM hMn r4 r9
                    generalize M.getD (2 * h + 2) 0 = y1 at *
                    generalize ms.getD (2 * h + 2) 0 = y2 at *
                    have k1 := IntWalk.i64_in (2 * (h : Int)) (by omega)
                    have k2' := IntWalk.i64_in (2 * (h : Int) + 2) (by omega)
                    have k3' := IntWalk.i64_in (2 * (h : Int) + 3) (by omega)
                    have k4 : (2 * (h : Int) + 2).toNat = 2 * h + 2 := by omega
                    have k5 : 0 ≤ 2 * (h : Int) + 2 := by omega
                    have k6 : 2 * (h : Int) + 2 < (ms.length : Int) := by omega
                    have k7 : 2 * (h : Int) + 2 < 2 * (h : Int) + 3 := by omega
                    go_wp2_with fail
                    go_region_law (go_simp; go_at_call 88; refine HMO.out.mono ?_; rintro e w3 ⟨v3, rfl, hr3, hb3⟩; obtain ⟨g3, c3, rfl, hg3⟩ := hr3.form' HLN.out (by omega); have e5 := HLC.out _ _ _ _ hr3; have e6 := HMC.out w3 ((Below.refl _ _).drew.trans hb3))
                    all_goals (go_wp2_with fail)
                    all_goals exact ⟨⟨k + 1, 1 + (k : Int), y1 == y2, _, by omega, by rw [show 1 + (k : Int) + 1 = 1 + ((k + 1 : Nat) : Int) by omega], rfl, rfl, HY.out.kept hb3, by rw [← HP.out]; exact HN.out⟩, by simp [intOf]; omega⟩
          case rest =>
            obtain ⟨y, b, z1, z2, rfl, rfl, rfl, hat, hf⟩ := hcut
            rcases hf with ⟨rfl, k, ek, rfl⟩ | ⟨rfl, ek⟩
            · have hk := ffG_lt _ _ _ ek
              rw [HF1.out] at ek
              have HSS : Hid (lfS ms (h + 1) = some (fs1, ds ++ [1 + (k : Int)])) := Lib.hid (by
                rw [lfS_succ HS.out, lfT, HEJ.out]
                simp only [if_neg HLA.out, ek]
                rw [HF1.out])
              have HP2 := Lib.hid hat
              clear hat HA2 ek
              go_wp2_with fail
              go_roundw
              case rel => exact ⟨h + 1, fs1, _, _, _, by omega, by go_num, HP2.out, HSS⟩
              case measure => simp [intOf]; omega
            · rw [HF1.out] at ek
              have HE := Lib.hid (HNONE.out h hh (by rw [lfS_succ HS.out, lfT, HEJ.out]; simp only [if_neg HLA.out, ek]))
              have r0 := hat.r0
              have r1 := hat.r1
              have g0 := hat.g0
              have g1 := hat.g1
              obtain ⟨e0, e1, HF⟩ := hat.undone (ok := false)
              have HFF := Lib.hid HF
              clear hat HA2 HF ek
              go_wp2_with fail
              rw [HE.out.1, HE.out.2.1, HE.out.2.2]
              refine bodyPost_ret (v := .tuple #[.agg #[.slice none 0 0, .slice none 0 0], .bool false]) ?_ rfl HFF.out
              generalize (wc.setCell ⟨w.heap.size, 0, none⟩ (.slice none 0 0)).setCell ⟨w.heap.size, 1, none⟩ (.slice none 0 0) = WF at *
              simp [results, Try.f58, go_sem, e0, e1]
      · have HE := Lib.hid (HNONE.out h hh (by rw [lfS_succ HS.out, lfT, ej]))
        have r0 := hat.r0
        have r1 := hat.r1
        have g0 := hat.g0
        have g1 := hat.g1
        obtain ⟨e0, e1, HF⟩ := hat.undone (ok := false)
        have HFF := Lib.hid HF
        clear hat HX2 HF
        go_wp2_with fail
        rw [HE.out.1, HE.out.2.1, HE.out.2.2]
        refine bodyPost_ret (v := .tuple #[.agg #[.slice none 0 0, .slice none 0 0], .bool false]) ?_ rfl HFF.out
        generalize (wc.setCell ⟨w.heap.size, 0, none⟩ (.slice none 0 0)).setCell ⟨w.heap.size, 1, none⟩ (.slice none 0 0) = WF at *
        simp [results, Try.f58, go_sem, e0, e1]
end Go.Proofs.Ytnmmgpmhpjjehaa
