/- The model's functions on votes. -/
import Derived.Test.YtnlcainfkchieaaVoMath
import Derived.Test.YtnlcainfkchieaaLeastMost
import Derived.Test.YtnlcainfkchieaaOwn
import Derived.Test.YtnlcainfkchieaaInList
import Derived.Test.YtnlcainfkchieaaPathOk
namespace Go.Proofs.Ytnlcainfkchieaa
open Go.RowKit
set_option linter.unusedVariables false
def UpV (s : ByteArray) (k : Nat) : Prop := ∀ j (h : j < s.size), j < k → isV s[j] = true
theorem UpV.zero (s : ByteArray) : UpV s 0 := fun _ _ h => absurd h (by omega)
theorem UpV.succ {s : ByteArray} {k : Nat} (h : UpV s k) (hk : k < s.size) (hu : isV s[k] = true) : UpV s (k + 1) := fun j hj hl => by
  by_cases e : j = k
  · subst e; exact hu
  · exact h j hj (by omega)
theorem UpV.full {s : ByteArray} {k : Nat} (h : UpV s k) (hk : k = s.size) (h16 : s.size ≤ 16) : votB s = true :=
  (votB_iff s).2 ⟨h16, fun j hj => h j hj (by omega)⟩
theorem votB_no {s : ByteArray} {k : Nat} (hk : k < s.size) (hu : isV s[k] = false) : votB s = false := by
  rw [Bool.eq_false_iff]
  intro h
  rw [((votB_iff s).1 h).2 k hk] at hu
  exact absurd hu (by simp)
theorem votB_long {s : ByteArray} (h : ¬ s.size ≤ 16) : votB s = false := by unfold votB; rw [decide_eq_false h]; rfl
/-- a new row with the counts of the first k votes -/
def CntNew (s : ByteArray) (w : World) (e : Ending) (w' : World) : Prop := ∃ v, e = .returned v ∧ IRow w' w.heap.size v (vcL s s.size) ∧ Below w.heap.size w w'
def f4 (x0 x1 x2 x3 : Int) : Bool := decide (x1 ≤ x0) && decide (x2 ≤ x1) && decide (x3 ≤ x2)
set_option maxRecDepth 100000 in
set_option maxHeartbeats 800000 in
theorem voFalls_any (v : Value) (x0 x1 x2 x3 : Int) (w : World) (h : RInts w v [x0, x1, x2, x3]) : Calls Try.prog 62 #[v] w fun e w' => e = .returned (.bool (f4 x0 x1 x2 x3)) ∧ Below w.heap.size w w' := by
  obtain ⟨g, o, c, rfl, hg, hcells⟩ := h.cells (by simp)
  have c0 := hcells 0 (by simp)
  have c1 := hcells 1 (by simp)
  have c2 := hcells 2 (by simp)
  have c3 := hcells 3 (by simp)
  simp at c0 c1 c2 c3
  clear hcells h
  have HF : Hid (f4 x0 x1 x2 x3 = (decide (x1 ≤ x0) && decide (x2 ≤ x1) && decide (x3 ≤ x2))) := Lib.hid rfl
  generalize f4 x0 x1 x2 x3 = fb at *
  by_cases h1 : x0 < x1
  · have HB : Hid (fb = false) := Lib.hid (by rw [HF.out, decide_eq_false (by omega)]; rfl)
    clear HF
    go_enter Try.func62, Try.ntmps62
    go_wp2
    refine wp_loop_rounds 1 ?_
    iterate 1 (rw [rounds_succ]; go_wp2; go_region; go_wp2)
    go_ret
    exact ⟨ret_bool HB.out.symm, below_drewN (Below.refl _ _) 1⟩
  · by_cases h2 : x1 < x2
    · have HB : Hid (fb = false) := Lib.hid (by rw [HF.out, decide_eq_false (show ¬ x2 ≤ x1 by omega), Bool.and_false]; rfl)
      clear HF
      go_enter Try.func62, Try.ntmps62
      go_wp2
      refine wp_loop_rounds 2 ?_
      iterate 2 (rw [rounds_succ]; go_wp2; go_region; go_wp2)
      go_ret
      exact ⟨ret_bool HB.out.symm, below_drewN (Below.refl _ _) 2⟩
    · by_cases h3 : x2 < x3
      · have HB : Hid (fb = false) := Lib.hid (by rw [HF.out, decide_eq_false (show ¬ x3 ≤ x2 by omega), Bool.and_false])
        clear HF
        go_enter Try.func62, Try.ntmps62
        go_wp2
        refine wp_loop_rounds 3 ?_
        iterate 3 (rw [rounds_succ]; go_wp2; go_region; go_wp2)
        go_ret
        exact ⟨ret_bool HB.out.symm, below_drewN (Below.refl _ _) 3⟩
      · have HB : Hid (fb = true) := Lib.hid (by rw [HF.out, decide_eq_true (show x1 ≤ x0 by omega), decide_eq_true (show x2 ≤ x1 by omega), decide_eq_true (show x3 ≤ x2 by omega)]; rfl)
        clear HF
        go_enter Try.func62, Try.ntmps62
        go_wp2
        refine wp_loop_rounds 4 ?_
        iterate 3 (rw [rounds_succ]; go_wp2; go_region; go_wp2)
        rw [rounds_succ]
        go_wp2
        go_ret
        exact ⟨ret_bool HB.out.symm, below_drewN (Below.refl _ _) 3⟩
end Go.Proofs.Ytnlcainfkchieaa
