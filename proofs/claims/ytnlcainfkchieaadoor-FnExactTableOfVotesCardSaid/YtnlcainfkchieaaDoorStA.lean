/- Standings: overtakes, with; a box of four numbers. -/
import Derived.Test.YtnlcainfkchieaaDoorPathOk
import Derived.Test.YtnlcainfkchieaaDoorWayM2
import Derived.Test.YtnlcainfkchieaaDoorOneI
import Derived.Test.YtnlcainfkchieaaDoorLowI
import Derived.Defers
import Derived.Recover
import Derived.RegionTactic
import Derived.Deep.QuietTactic
namespace Go.Proofs.YtnlcainfkchieaaDoor
open Go.RowKit
set_option linter.unusedVariables false
def stA (p : Nat → Nat) : Value := .agg #[.int .i64 ((p 0 : Nat) : Int), .int .i64 ((p 1 : Nat) : Int), .int .i64 ((p 2 : Nat) : Int), .int .i64 ((p 3 : Nat) : Int)]
def ovB (p : Nat → Nat) (c : Nat) : Bool := decide (0 < c) && decide (p c = p (c - 1))
set_option maxHeartbeats 800000 in
theorem overtakes_any (p : Nat → Nat) (c : Nat) (hc : c < 4) (w : World) : Calls Tryd.prog 91 #[stA p, .int .i64 (c : Int)] w (Ret w (.bool (ovB p c))) := by
  unfold stA
  have HB : ∀ q : Nat, Hid ((((p (q + 1) : Nat) : Int) == ((p q : Nat) : Int)) = ovB p (q + 1)) := fun q => Lib.hid (by
    unfold ovB
    rw [decide_eq_true (by omega), Bool.true_and, Bool.eq_iff_iff, beq_iff_eq, decide_eq_true_iff, Nat.add_sub_cancel]
    omega)
  have HB0 : Hid (ovB p 0 = false) := Lib.hid rfl
  have HB1 := HB 0
  have HB2 := HB 1
  have HB3 := HB 2
  simp only [Nat.zero_add, Nat.reduceAdd] at HB1 HB2 HB3
  clear HB
  have hc4 : c = 0 ∨ c = 1 ∨ c = 2 ∨ c = 3 := by omega
  rcases hc4 with rfl | rfl | rfl | rfl
  · generalize ovB p 0 = b0 at *
    go_enter Tryd.func91, Tryd.ntmps91
    go_wp2
    go_quiet (fail)
    go_wp2
    go_ret
    exact ⟨ret_bool HB0.out.symm, below_drewN ((Below.refl _ _).alloc (Nat.le_refl _) _) _⟩
  · generalize ovB p 1 = b1 at *
    go_enter Tryd.func91, Tryd.ntmps91
    go_wp2
    go_region
    go_wp2
    go_ret
    exact ⟨ret_bool HB1.out, below_drewN ((Below.refl _ _).alloc (Nat.le_refl _) _) 1⟩
  · generalize ovB p 2 = b1 at *
    go_enter Tryd.func91, Tryd.ntmps91
    go_wp2
    go_region
    go_wp2
    go_ret
    exact ⟨ret_bool HB2.out, below_drewN ((Below.refl _ _).alloc (Nat.le_refl _) _) 1⟩
  · generalize ovB p 3 = b1 at *
    go_enter Tryd.func91, Tryd.ntmps91
    go_wp2
    go_region
    go_wp2
    go_ret
    exact ⟨ret_bool HB3.out, below_drewN ((Below.refl _ _).alloc (Nat.le_refl _) _) 1⟩
/-- a box of four numbers -/
structure B4 (b : Nat) (p : Nat → Nat) (W : World) : Prop where
  cell : ∀ j, j < 4 → W.cell? ⟨b, j, none⟩ = some (.int .i64 ((p j : Nat) : Int))
  free : ∀ j, j < 4 → W.frozen? ⟨b, j, none⟩ = false
  lt : b < W.heap.size
theorem B4.below {b : Nat} {p : Nat → Nat} {W W' : World} (h : B4 b p W) (hb : Below W.heap.size W W') : B4 b p W' :=
  ⟨fun j hj => (hb.cell (p := ⟨b, j, none⟩) h.lt).trans (h.cell j hj), fun j hj => by
    have := hb.block b h.lt
    have e : W'.frozen? ⟨b, j, none⟩ = W.frozen? ⟨b, j, none⟩ := by unfold World.frozen?; rw [this]
    rw [e]; exact h.free j hj, Nat.lt_of_lt_of_le h.lt hb.size⟩
theorem B4.set {b : Nat} {p : Nat → Nat} {W : World} (h : B4 b p W) (c : Nat) (hc : c < 4) : B4 b (up p c) (W.setCell ⟨b, c, none⟩ (.int .i64 (((p c : Nat) : Int) + 1))) := by
  refine ⟨fun j hj => ?_, fun j hj => ?_, ?_⟩
  · by_cases e : j = c
    · subst e
      rw [World.cell?_setCell_same W ⟨b, j, none⟩ _ (h.cell j hj), up_at]
      rfl
    · rw [World.cell?_setCell_other W ⟨b, c, none⟩ ⟨b, j, none⟩ _ (fun x => e (by injection x with _ x; exact x.symm)), up_ne p e]
      exact h.cell j hj
  · rw [World.frozen?_setCell]; exact h.free j hj
  · simp [World.setCell]; exact h.lt
theorem B4.ints {b : Nat} {p : Nat → Nat} {W : World} (h : B4 b p W) : RInts W (.slice (some ⟨b, 0, none⟩) 4 4) [((p 0 : Nat) : Int), ((p 1 : Nat) : Int), ((p 2 : Nat) : Int), ((p 3 : Nat) : Int)] := by
  refine ⟨⟨_, _, rfl⟩, fun A n c e => by injection e with e1 e2 e3; subst e2 e3; exact ⟨Nat.le_refl _, by simp [maxLen]⟩, fun _ => ⟨b, 0, 4, rfl, h.lt, fun j hj => ?_⟩⟩
  rw [Nat.zero_add, h.cell j hj]
  have : j = 0 ∨ j = 1 ∨ j = 2 ∨ j = 3 := by simp at hj; omega
  rcases this with e | e | e | e <;> subst e <;> rfl
theorem B4.new {p : Nat → Nat} (w : World) (T : TypeId) : B4 w.heap.size p (w.alloc (.cells #[.int .i64 ((p 0 : Nat) : Int), .int .i64 ((p 1 : Nat) : Int), .int .i64 ((p 2 : Nat) : Int), .int .i64 ((p 3 : Nat) : Int)] T)) := by
  refine ⟨fun j hj => ?_, fun j hj => ?_, by simp⟩
  · have : j = 0 ∨ j = 1 ∨ j = 2 ∨ j = 3 := by omega
    rcases this with e | e | e | e <;> subst e <;> simp [go_sem]
  · have : j = 0 ∨ j = 1 ∨ j = 2 ∨ j = 3 := by omega
    rcases this with e | e | e | e <;> subst e <;> simp [go_sem]
set_option maxHeartbeats 800000 in
theorem with_any (p : Nat → Nat) (c : Nat) (hc : c < 4) (hp : p c ≤ 16) (w : World) : Calls Tryd.prog 68 #[stA p, .int .i64 (c : Int)] w (Ret w (stA (up p c))) := by
  unfold stA
  have hc4 : c = 0 ∨ c = 1 ∨ c = 2 ∨ c = 3 := by omega
  rcases hc4 with rfl | rfl | rfl | rfl
  all_goals
    go_enter Tryd.func68, Tryd.ntmps68
    go_wp2
    refine bodyPost_ret (v := stA (up p _)) (by simp [results, Tryd.results68, go_sem, up, stA]) rfl ⟨rfl, ?_⟩
    exact ((Below.refl _ _).alloc (Nat.le_refl _) _).alloc (by simp) _
end Go.Proofs.YtnlcainfkchieaaDoor
