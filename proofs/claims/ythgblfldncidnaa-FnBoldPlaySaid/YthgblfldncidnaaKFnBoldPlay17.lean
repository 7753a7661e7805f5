/- Pack 17 of what FnBoldPlay needs: BpY, QbS. -/
import Derived.Test.YthgblfldncidnaaKFnBoldPlay16
import Derived.BigQuiet
/- A ratio times a number. -/
namespace Go.Proofs.Ythgblfldncidnaa
open Go.RowKit
set_option linter.unusedVariables false
set_option maxHeartbeats 1000000 in
theorem yTimes_any (r s n : Int) (w : World) (hr : 0 ≤ r ∧ r ≤ 1000) (hs : 1 ≤ s ∧ s ≤ 1000) (hn : 0 ≤ n ∧ n ≤ 1000) :
    Calls Try.prog 12 #[.agg #[.int .i64 r, .int .i64 s], .int .i64 n] w (Ret w (.int .i64 (ytN r s n))) := by
  have HB : Hid (Below w.heap.size w (w.alloc (.cells #[.int .i64 r, .int .i64 s] 25))) := Lib.hid ((Below.refl _ _).alloc (Nat.le_refl _) _)
  have e1 : n.tmod s = n % s := Int.tmod_eq_emod_of_nonneg (by omega)
  have e2 : n.tdiv s = n / s := Int.tdiv_eq_ediv_of_nonneg (by omega)
  have hs0 : (s == 0) = false := by rw [beq_eq_false_iff_ne]; omega
  have hq0 : 0 ≤ n / s := Int.ediv_nonneg (by omega) (by omega)
  have hq1 : n / s ≤ n := Int.ediv_le_self _ (by omega)
  have hp : 0 ≤ r * (n / s) ∧ r * (n / s) ≤ 1000 * 1000 := ⟨Int.mul_nonneg hr.1 hq0, Int.le_trans (Int.mul_le_mul_of_nonneg_left (show n / s ≤ 1000 by omega) hr.1) (Int.mul_le_mul_of_nonneg_right hr.2 (by omega))⟩
  by_cases hm : n % s = 0
  · have ev : ytN r s n = r * (n / s) := by unfold ytN; rw [if_neg (by omega)]
    rw [ev]
    clear ev
    have h1 : (n % s != 0) = false := by rw [hm]; rfl
    clear hm e1 e2
    go_enter Try.func12, Try.ntmps12
    go_wp2_with fail
    go_quiet (fail)
    go_wp2_with fail
    go_ret
    exact ⟨rfl, below_drewN HB.out _⟩
  · have ev : ytN r s n = -1 := by unfold ytN; rw [if_pos (Or.inr hm)]
    rw [ev]
    have h1 : (n % s != 0) = true := by rw [bne_iff_ne]; exact hm
    clear hm ev e1 hp hq0 hq1 e2
    go_enter Try.func12, Try.ntmps12
    go_wp2_with fail
    go_ret
    exact ⟨rfl, HB.out⟩
end Go.Proofs.Ythgblfldncidnaa

/- Two numbers in a box. -/
namespace Go.Proofs.Ythgblfldncidnaa
open Go.RowKit
set_option linter.unusedVariables false
/-- a box of two numbers at b -/
structure QB (b : Nat) (n d : Int) (X : World) : Prop where
  c0 : X.cell? ⟨b, 0, none⟩ = some (.int .i64 n)
  c1 : X.cell? ⟨b, 1, none⟩ = some (.int .i64 d)
  lt : b < X.heap.size
theorem QB.below {b : Nat} {n d : Int} {X X' : World} (h : QB b n d X) (hb : Below X.heap.size X X') : QB b n d X' :=
  ⟨(hb.cell (p := ⟨b, 0, none⟩) h.lt).trans h.c0, (hb.cell (p := ⟨b, 1, none⟩) h.lt).trans h.c1, Nat.lt_of_lt_of_le h.lt hb.size⟩
theorem QB.new (X : World) (n d : Int) (t : TypeId) : QB X.heap.size n d (X.alloc (.cells #[.int .i64 n, .int .i64 d] t)) := ⟨by simp [go_sem], by simp [go_sem], by simp⟩
end Go.Proofs.Ythgblfldncidnaa
