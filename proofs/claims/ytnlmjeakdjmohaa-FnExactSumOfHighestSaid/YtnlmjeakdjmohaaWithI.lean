/- The program's spans of heights: with. -/
import Derived.Test.YtnlmjeakdjmohaaDegI
import Derived.Test.YtnlmjeakdjmohaaInB
import Derived.Deep.RegionLaw
import Derived.Handy
namespace Go.Proofs.Ytnlmjeakdjmohaa
open Go.RowKit
set_option linter.unusedVariables false
theorem inB_of' {a lo hi : Int} (h : inB a lo hi = true) : lo ≤ a ∧ a ≤ hi := by
  unfold inB at h
  simpa only [Bool.and_eq_true, decide_eq_true_eq] using h
set_option maxHeartbeats 800000 in
theorem with_any (lo hi : Int) (v : Value) (xs : List Int) (w : World) (h : RInts w v xs) (h1 : 1 ≤ xs.length) (hl : xs.length ≤ 1048576) :
    Calls Try.prog 158 #[.agg #[.int .i64 lo, .int .i64 hi], v] w (Ret w (.agg #[.int .i64 (min lo (mnT xs (xs.length - 1))), .int .i64 (max hi (mxT xs (xs.length - 1)))])) := by
  obtain ⟨A0, cap, rfl⟩ := h.shape
  have HA : Hid (∀ W, Below w.heap.size w W → Calls Try.prog 155 #[.slice A0 xs.length cap] W fun e w' => e = .returned (.int .i64 (mnT xs (xs.length - 1))) ∧ W = w') := Lib.hid fun W hb => minS_any _ xs W (h.below hb) h1 hl
  have HB : Hid (∀ W, Below w.heap.size w W → Calls Try.prog 160 #[.slice A0 xs.length cap] W fun e w' => e = .returned (.int .i64 (mxT xs (xs.length - 1))) ∧ W = w') := Lib.hid fun W hb => maxS_any _ xs W (h.below hb) h1 hl
  have hb2 : Below w.heap.size w ((((w.alloc (.cells #[.int .i64 lo, .int .i64 hi] 116)).alloc (.cells #[.int .i64 0, .int .i64 0] 116))).drew) := (((Below.refl _ _).alloc (Nat.le_refl _) _).alloc (by simp) _).drew
  clear h
  generalize mnT xs (xs.length - 1) = m at *
  generalize mxT xs (xs.length - 1) = M at *
  go_enter Try.func158, Try.ntmps158
  go_wp2
  go_region_law (first
    | (go_simp; go_at_call 155; refine (HA.out _ hb2).mono ?_; rintro e w' ⟨rfl, rfl⟩)
    | (go_simp; go_at_call 160; refine (HB.out _ hb2).mono ?_; rintro e w' ⟨rfl, rfl⟩))
  all_goals (try go_wp2_with fail)
  all_goals go_returns
  all_goals exact ⟨rfl, (((Below.refl _ _).alloc (Nat.le_refl _) _).alloc (by simp) _).drew⟩
end Go.Proofs.Ytnlmjeakdjmohaa
