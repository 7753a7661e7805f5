/- The model's IsCell, IsWay, CellsOfWay, EndOfWay, CountWays. -/
import Derived.Test.YtahnknbggacndaaNcC
namespace Go.Proofs.Ytahnknbggacndaa
open Go.RowKit
set_option linter.unusedVariables false
theorem specIsCell_ret (x y : Int) (w : World) : Calls Try.prog 20 #[celV x y] w (Ret w (.bool (cellB x y))) := by
  have HC : Hid (∀ w, Calls Try.prog 77 #[celV x y] w (Ret w (.bool (cellB x y)))) := Lib.hid fun w => ncCell_any x y w
  have hb0 : Below w.heap.size w (w.alloc (.cells #[.int .i64 x, .int .i64 y] 25)) := (Below.refl _ _).alloc (Nat.le_refl _) _
  generalize cellB x y = b at *
  go_enter Try.func20, Try.ntmps20
  go_wp2_with (go_at_call 77; refine (HC.out _).mono ?_; rintro e w1 ⟨rfl, hb1⟩)
  go_ret
  exact ⟨rfl, hb0.trans (hb1.mono (by simp))⟩
theorem specIsWay_ret (x y : Int) (s : ByteArray) (w : World) (hs : s.size ≤ maxLen) : Calls Try.prog 24 #[wayV x y s] w (Ret w (.bool (wayB x y s))) := by
  have HX := Lib.hid (WBox.start w x y s)
  have HC : Hid (∀ w, Calls Try.prog 79 #[wayV x y s] w (CsRet w (wayB x y s) (ncN x y s) (ncX x y s))) := Lib.hid fun w => ncCells_any x y s w hs
  generalize wayB x y s = b at *
  generalize ncN x y s = n at *
  generalize ncX x y s = xs at *
  go_enter Try.func24, Try.ntmps24
  go_wp2_with (go_at_call 79; refine (HC.out _).mono ?_; rintro e w1 ⟨v1, rfl, hr1, hb1⟩; have HX1 := Lib.hid (HX.out.kept hb1); clear hr1 hb1)
  go_ret
  exact ⟨rfl, HX1.out.below⟩
theorem specCells_ret (x y : Int) (s : ByteArray) (w : World) (hs : s.size ≤ maxLen) : Calls Try.prog 27 #[wayV x y s] w (CsRet w (wayB x y s) (ncN x y s) (ncX x y s)) := by
  have HX := Lib.hid (WBox.start w x y s)
  have HC : Hid (∀ w, Calls Try.prog 79 #[wayV x y s] w (CsRet w (wayB x y s) (ncN x y s) (ncX x y s))) := Lib.hid fun w => ncCells_any x y s w hs
  generalize wayB x y s = b at *
  generalize ncN x y s = n at *
  generalize ncX x y s = xs at *
  go_enter Try.func27, Try.ntmps27
  go_wp2_with (go_at_call 79; refine (HC.out _).mono ?_; rintro e w1 ⟨v1, rfl, hr1, hb1⟩; have HX1 := Lib.hid (HX.out.kept hb1); obtain ⟨A1, c1, rfl⟩ := hr1.shape; have HR1 := Lib.hid hr1; clear hr1 hb1)
  go_ret2
  exact ⟨_, rfl, HR1.out.mono (Nat.le_of_lt HX.out.lt), HX1.out.below⟩
def ewX (x y : Int) (s : ByteArray) : Int := if wayB x y s = true then cX s x s.size else 0
def ewY (x y : Int) (s : ByteArray) : Int := if wayB x y s = true then cY s y s.size else 0
/-- a way, and an empty cell behind it -/
structure WZ (w : World) (x y : Int) (s : ByteArray) (X : World) : Prop where
  box : WBox w x y s X
  z0 : X.cell? ⟨w.heap.size + 1, 0, none⟩ = some (.int .i64 0)
  z1 : X.cell? ⟨w.heap.size + 1, 1, none⟩ = some (.int .i64 0)
  f0 : X.frozen? ⟨w.heap.size + 1, 0, none⟩ = false
  f1 : X.frozen? ⟨w.heap.size + 1, 1, none⟩ = false
  lt : w.heap.size + 1 < X.heap.size
theorem WZ.kept {w X X' : World} {x y : Int} {s : ByteArray} (h : WZ w x y s X) (hb : Below X.heap.size X X') : WZ w x y s X' :=
  ⟨h.box.kept hb, (hb.cell (p := ⟨w.heap.size + 1, 0, none⟩) h.lt).trans h.z0, (hb.cell (p := ⟨w.heap.size + 1, 1, none⟩) h.lt).trans h.z1, (hb.frozen (p := ⟨w.heap.size + 1, 0, none⟩) h.lt).trans h.f0, (hb.frozen (p := ⟨w.heap.size + 1, 1, none⟩) h.lt).trans h.f1, Nat.lt_of_lt_of_le h.lt hb.size⟩
theorem WZ.start (w : World) (x y : Int) (s : ByteArray) : WZ w x y s ((w.alloc (.cells #[.int .i64 x, .int .i64 y, .string s] 33)).alloc (.cells #[.int .i64 0, .int .i64 0] 25)) :=
  ⟨(WBox.start w x y s).kept ((Below.refl _ _).alloc (Nat.le_refl _) _), by simp [go_sem], by simp [go_sem], by simp [go_sem], by simp [go_sem], by simp⟩
theorem WZ.done {w X : World} {x y : Int} {s : ByteArray} (h : WZ w x y s X) (u v : Int) :
    ((X.setCell ⟨w.heap.size + 1, 0, none⟩ (.int .i64 u)).setCell ⟨w.heap.size + 1, 1, none⟩ (.int .i64 v)).cell? ⟨w.heap.size + 1, 0, none⟩ = some (.int .i64 u) ∧ ((X.setCell ⟨w.heap.size + 1, 0, none⟩ (.int .i64 u)).setCell ⟨w.heap.size + 1, 1, none⟩ (.int .i64 v)).cell? ⟨w.heap.size + 1, 1, none⟩ = some (.int .i64 v) ∧
    Below w.heap.size w ((X.setCell ⟨w.heap.size + 1, 0, none⟩ (.int .i64 u)).setCell ⟨w.heap.size + 1, 1, none⟩ (.int .i64 v)) :=
  ⟨(World.cell?_setCell_other _ _ _ _ (by simp)).trans (World.cell?_setCell_same' _ _ _ (by rw [h.z0]; rfl)), World.cell?_setCell_same' _ _ _ (by rw [World.cell?_setCell_other _ _ _ _ (by simp), h.z1]; rfl),
    (h.box.below.setCell (p := ⟨w.heap.size + 1, 0, none⟩) (by show w.heap.size ≤ w.heap.size + 1; omega) _).setCell (p := ⟨w.heap.size + 1, 1, none⟩) (by show w.heap.size ≤ w.heap.size + 1; omega) _⟩
set_option maxRecDepth 100000 in
set_option maxHeartbeats 1000000 in
theorem specEndW_ret (x y : Int) (s : ByteArray) (w : World) (hs : s.size ≤ maxLen) : Calls Try.prog 32 #[wayV x y s] w (Ret w (.tuple #[celV (ewX x y s) (ewY x y s), .bool (wayB x y s)])) := by
  have HX := Lib.hid (WZ.start w x y s)
  have HC : Hid (∀ w, Calls Try.prog 79 #[wayV x y s] w (CsRet w (wayB x y s) (ncN x y s) (ncX x y s))) := Lib.hid fun w => ncCells_any x y s w hs
  rcases Bool.eq_false_or_eq_true (wayB x y s) with hw | hw
  · have e1 : ncN x y s = s.size + 1 := by unfold ncN; rw [if_pos hw]
    have e2 : ncX x y s = clF s x y s.size := by unfold ncX; rw [if_pos hw]
    have e3 : ewX x y s = cX s x s.size := by unfold ewX; rw [if_pos hw]
    have e4 : ewY x y s = cY s y s.size := by unfold ewY; rw [if_pos hw]
    have hl := clF_x s x y (k := s.size) (j := s.size) (Nat.le_refl _)
    have hr := clF_y s x y (k := s.size) (j := s.size) (Nat.le_refl _)
    have h24 := (wayB_of hw).2.1
    rw [hw, e1, e2] at HC
    rw [e3, e4, hw]
    clear e1 e2 e3 e4 hw
    generalize clF s x y s.size = xs at *
    generalize cX s x s.size = u at *
    generalize cY s y s.size = v at *
    have i1 : (s.size : Int) < (s.size : Int) + 1 := by omega
    go_enter Try.func32, Try.ntmps32
    go_wp2_with (go_at_call 79; refine (HC.out _).mono ?_; rintro e w1 ⟨v1, rfl, hr1, hb1⟩; have hx1 := HX.out.kept hb1; have q0 := hx1.z0; have q1 := hx1.z1; have q2 := hx1.f0; have q3 := hx1.f1; obtain ⟨g1, c1, rfl, _, _⟩ := hr1.form (by omega); have l0 := hr1.cell (j := s.size * 2) (by omega); have l1 := hr1.cell (j := s.size * 2 + 1) (by omega); rw [hl] at l0; rw [hr] at l1; have HX1 := Lib.hid hx1; clear hr1 hb1 hx1)
    obtain ⟨z0, z1, hzb⟩ := HX1.out.done u v
    refine bodyPost_ret (v := .tuple #[celV u v, .bool true]) ?_ rfl ⟨rfl, hzb⟩
    clear hzb
    generalize (w1.setCell ⟨w.heap.size + 1, 0, none⟩ (.int .i64 u)).setCell ⟨w.heap.size + 1, 1, none⟩ (.int .i64 v) = WF at *
    simp [results, Try.f32, go_sem, z0, z1]
  · have e1 : ncN x y s = 0 := by simp [ncN, hw]
    have e2 : ncX x y s = [] := by simp [ncX, hw]
    have e3 : ewX x y s = 0 := by simp [ewX, hw]
    have e4 : ewY x y s = 0 := by simp [ewY, hw]
    rw [hw, e1, e2] at HC
    rw [e3, e4, hw]
    clear e1 e2 e3 e4 hw
    go_enter Try.func32, Try.ntmps32
    go_wp2_with (go_at_call 79; refine (HC.out _).mono ?_; rintro e w1 ⟨v1, rfl, hr1, hb1⟩; have hx1 := HX.out.kept hb1; have q0 := hx1.z0; have q1 := hx1.z1; have q2 := hx1.f0; have q3 := hx1.f1; obtain ⟨A1, c1, rfl⟩ := hr1.shape; have HX1 := Lib.hid hx1; clear hr1 hb1 hx1)
    obtain ⟨z0, z1, hzb⟩ := HX1.out.done 0 0
    refine bodyPost_ret (v := .tuple #[celV 0 0, .bool false]) ?_ rfl ⟨rfl, hzb⟩
    clear hzb
    generalize (w1.setCell ⟨w.heap.size + 1, 0, none⟩ (.int .i64 0)).setCell ⟨w.heap.size + 1, 1, none⟩ (.int .i64 0) = WF at *
    simp [results, Try.f32, go_sem, z0, z1]
end Go.Proofs.Ytahnknbggacndaa
