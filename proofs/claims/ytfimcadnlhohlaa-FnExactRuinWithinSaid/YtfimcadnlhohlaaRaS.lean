/- The model's ruTimes; a result box whatever it holds. -/
import Derived.Test.YtfimcadnlhohlaaRzS
import Derived.Test.YtfimcadnlhohlaaHwMath
namespace Go.Proofs.Ytfimcadnlhohlaa
open Go.RowKit
set_option linter.unusedVariables false
def timB (i g n d k : Int) : Bool := askB i g n d && inBd 0 18 k
theorem timB_of {i g n d k : Int} (h : timB i g n d k = true) : askB i g n d = true ∧ 0 ≤ k ∧ k ≤ 18 := by
  unfold timB inBd at h
  simp only [Bool.and_eq_true, decide_eq_true_eq] at h
  exact ⟨h.1, h.2.1, h.2.2⟩
set_option maxHeartbeats 1000000 in
theorem ruTimes_any (i g n d k : Int) (w : World) : Calls Try.prog 67 #[.int .i64 i, .int .i64 g, .agg #[.int .i64 n, .int .i64 d], .int .i64 k] w (Ret w (.bool (timB i g n d k))) := by
  have HA : Hid (∀ w, Calls Try.prog 56 #[.int .i64 i, .int .i64 g, .agg #[.int .i64 n, .int .i64 d]] w (Ret w (.bool (askB i g n d)))) := Lib.hid fun w => ruAsked_any i g n d w
  have HI : Hid (∀ w, Calls Try.prog 64 #[.int .i64 k, .int .i64 0, .int .i64 18] w fun e w' => e = .returned (.bool (inBd 0 18 k)) ∧ w = w') := Lib.hid fun w => in_any k 0 18 w
  have hb0 := (RBox.start w n d).2.2.2
  unfold timB
  generalize inBd 0 18 k = b at *
  rcases Bool.eq_false_or_eq_true (askB i g n d) with a1 | a1
  · rw [a1] at HA ⊢
    go_enter Try.func67, Try.ntmps67
    go_wp2_with (first | (go_at_call 56; refine (HA.out _).mono ?_; rintro e wa ⟨rfl, hba⟩) | (go_at_call 64; refine (HI.out _).mono ?_; rintro e w' ⟨rfl, rfl⟩))
    go_ret
    exact ⟨by simp, hb0.trans (hba.mono (by simp))⟩
  · rw [a1] at HA ⊢
    go_enter Try.func67, Try.ntmps67
    go_wp2_with (go_at_call 56; refine (HA.out _).mono ?_; rintro e wa ⟨rfl, hba⟩)
    go_ret
    exact ⟨by simp, hb0.trans (hba.mono (by simp))⟩
/-- a chance in its box, and a result behind it, whatever it holds -/
structure RA (w : World) (n d : Int) (W : World) : Prop where
  r : RBox w w.heap.size n d W
  c0 : ∃ u : Int, W.cell? ⟨w.heap.size + 1, 0, none⟩ = some (.int .i64 u)
  c1 : ∃ u : Int, W.cell? ⟨w.heap.size + 1, 1, none⟩ = some (.int .i64 u)
  f0 : W.frozen? ⟨w.heap.size + 1, 0, none⟩ = false
  f1 : W.frozen? ⟨w.heap.size + 1, 1, none⟩ = false
  lt : w.heap.size + 1 < W.heap.size
theorem RA.kept {w W W' : World} {n d : Int} (h : RA w n d W) (hb : Below W.heap.size W W') : RA w n d W' := by
  obtain ⟨u, hu⟩ := h.c0
  obtain ⟨v, hv⟩ := h.c1
  exact ⟨h.r.kept hb, ⟨u, (hb.cell (p := ⟨w.heap.size + 1, 0, none⟩) h.lt).trans hu⟩, ⟨v, (hb.cell (p := ⟨w.heap.size + 1, 1, none⟩) h.lt).trans hv⟩, (hb.frozen (p := ⟨w.heap.size + 1, 0, none⟩) h.lt).trans h.f0, (hb.frozen (p := ⟨w.heap.size + 1, 1, none⟩) h.lt).trans h.f1, Nat.lt_of_lt_of_le h.lt hb.size⟩
theorem RA.of {w W : World} {n d : Int} (h : RZ w n d W) : RA w n d W := ⟨h.r, ⟨0, h.z.c0⟩, ⟨0, h.z.c1⟩, h.z.f0, h.z.f1, h.z.lt⟩
theorem RA.done {w W : World} {n d : Int} (h : RA w n d W) (x y : Int) :
    ((W.setCell ⟨w.heap.size + 1, 0, none⟩ (.int .i64 x)).setCell ⟨w.heap.size + 1, 1, none⟩ (.int .i64 y)).cell? ⟨w.heap.size + 1, 0, none⟩ = some (.int .i64 x) ∧ ((W.setCell ⟨w.heap.size + 1, 0, none⟩ (.int .i64 x)).setCell ⟨w.heap.size + 1, 1, none⟩ (.int .i64 y)).cell? ⟨w.heap.size + 1, 1, none⟩ = some (.int .i64 y) ∧
    RA w n d ((W.setCell ⟨w.heap.size + 1, 0, none⟩ (.int .i64 x)).setCell ⟨w.heap.size + 1, 1, none⟩ (.int .i64 y)) := by
  obtain ⟨u, hu⟩ := h.c0
  obtain ⟨v, hv⟩ := h.c1
  have a0 : ((W.setCell ⟨w.heap.size + 1, 0, none⟩ (.int .i64 x)).setCell ⟨w.heap.size + 1, 1, none⟩ (.int .i64 y)).cell? ⟨w.heap.size + 1, 0, none⟩ = some (.int .i64 x) := (World.cell?_setCell_other _ _ _ _ (by simp)).trans (World.cell?_setCell_same' _ _ _ (by rw [hu]; rfl))
  have a1 : ((W.setCell ⟨w.heap.size + 1, 0, none⟩ (.int .i64 x)).setCell ⟨w.heap.size + 1, 1, none⟩ (.int .i64 y)).cell? ⟨w.heap.size + 1, 1, none⟩ = some (.int .i64 y) := World.cell?_setCell_same' _ _ _ (by rw [World.cell?_setCell_other _ _ _ _ (by simp), hv]; rfl)
  have hne : ∀ o o', (⟨w.heap.size + 1, o, none⟩ : Addr) ≠ ⟨w.heap.size, o', none⟩ := fun o o' e => by injection e with e; omega
  refine ⟨a0, a1, ⟨?_, ?_, ?_, ?_⟩, ⟨x, a0⟩, ⟨y, a1⟩, by rw [World.frozen?_setCell, World.frozen?_setCell]; exact h.f0, by rw [World.frozen?_setCell, World.frozen?_setCell]; exact h.f1, by simpa [World.setCell] using h.lt⟩
  · rw [World.cell?_setCell_other _ _ _ _ (by intro e; injection e with e; omega), World.cell?_setCell_other _ _ _ _ (by intro e; injection e with e; omega)]
    exact h.r.1
  · rw [World.cell?_setCell_other _ _ _ _ (by intro e; injection e with e; omega), World.cell?_setCell_other _ _ _ _ (by intro e; injection e with e; omega)]
    exact h.r.2.1
  · simpa [World.setCell] using h.r.2.2.1
  · exact (h.r.2.2.2.setCell (p := ⟨w.heap.size + 1, 0, none⟩) (by show w.heap.size ≤ w.heap.size + 1; omega) _).setCell (p := ⟨w.heap.size + 1, 1, none⟩) (by show w.heap.size ≤ w.heap.size + 1; omega) _
theorem raKeep {w W W' : World} {n d : Int} (h : W.cell? ⟨w.heap.size, 0, none⟩ = some (.int .i64 n) ∧ W.cell? ⟨w.heap.size, 1, none⟩ = some (.int .i64 d) ∧ RA w n d W) (hb : Below W.heap.size W W') : W'.cell? ⟨w.heap.size, 0, none⟩ = some (.int .i64 n) ∧ W'.cell? ⟨w.heap.size, 1, none⟩ = some (.int .i64 d) ∧ RA w n d W' :=
  ⟨(h.2.2.kept hb).r.1, (h.2.2.kept hb).r.2.1, h.2.2.kept hb⟩
theorem raStore {w W : World} {n d : Int} (x y : Int) (h : W.cell? ⟨w.heap.size, 0, none⟩ = some (.int .i64 n) ∧ W.cell? ⟨w.heap.size, 1, none⟩ = some (.int .i64 d) ∧ RA w n d W) :
    ((W.setCell ⟨w.heap.size + 1, 0, none⟩ (.int .i64 x)).setCell ⟨w.heap.size + 1, 1, none⟩ (.int .i64 y)).cell? ⟨w.heap.size, 0, none⟩ = some (.int .i64 n) ∧ ((W.setCell ⟨w.heap.size + 1, 0, none⟩ (.int .i64 x)).setCell ⟨w.heap.size + 1, 1, none⟩ (.int .i64 y)).cell? ⟨w.heap.size, 1, none⟩ = some (.int .i64 d) ∧
    RA w n d ((W.setCell ⟨w.heap.size + 1, 0, none⟩ (.int .i64 x)).setCell ⟨w.heap.size + 1, 1, none⟩ (.int .i64 y)) :=
  ⟨(h.2.2.done x y).2.2.r.1, (h.2.2.done x y).2.2.r.2.1, (h.2.2.done x y).2.2⟩
theorem raOf {w W : World} {n d : Int} (h : W.cell? ⟨w.heap.size, 0, none⟩ = some (.int .i64 n) ∧ W.cell? ⟨w.heap.size, 1, none⟩ = some (.int .i64 d) ∧ RA w n d W) : RA w n d W := h.2.2
def wwP (i g n d k : Int) : Int := if timB i g n d k = true then numZ (hw i.toNat g.toNat n d k.toNat g.toNat) (d ^ k.toNat) else 0
def wwQ (i g n d k : Int) : Int := if timB i g n d k = true then denZ (hw i.toNat g.toNat n d k.toNat g.toNat) (d ^ k.toNat) else 0
def rwP (i g n d k : Int) : Int := if timB i g n d k = true then numZ (hw i.toNat g.toNat n d k.toNat 0) (d ^ k.toNat) else 0
def rwQ (i g n d k : Int) : Int := if timB i g n d k = true then denZ (hw i.toNat g.toNat n d k.toNat 0) (d ^ k.toNat) else 0
end Go.Proofs.Ytfimcadnlhohlaa
