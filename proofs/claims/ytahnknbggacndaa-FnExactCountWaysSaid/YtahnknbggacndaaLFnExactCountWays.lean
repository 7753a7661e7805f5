/- The walk of FnExactCountWays: it asks the model and the program about copies of two cells and holds the answers against each other. -/
import Derived.Test.YtahnknbggacndaaCqLaw
import Derived.Deep.RegionHeld3
namespace Go.Proofs.Ytahnknbggacndaa
open Go.RowKit
set_option linter.unusedVariables false
/-- two boxes -/
def Q2B (w : World) (n d m e : Int) (X : World) : Prop := QB w.heap.size n d X ∧ QB (w.heap.size + 1) m e X ∧ Below w.heap.size w X
theorem Q2B.below {w X X' : World} {n d m e : Int} (h : Q2B w n d m e X) (hb : Below X.heap.size X X') : Q2B w n d m e X' := ⟨h.1.below hb, h.2.1.below hb, h.2.2.trans (hb.mono h.2.2.size)⟩
theorem Q2B.new (w : World) (n d m e : Int) (t u : TypeId) : Q2B w n d m e ((w.alloc (.cells #[.int .i64 n, .int .i64 d] t)).alloc (.cells #[.int .i64 m, .int .i64 e] u)) :=
  ⟨(QB.new w n d t).below ((Below.refl _ _).alloc (Nat.le_refl _) _), by have := QB.new (w.alloc (.cells #[.int .i64 n, .int .i64 d] t)) m e u; simpa using this, ((Below.refl _ _).alloc (Nat.le_refl _) _).alloc (by simp) _⟩
/-- the cells of two boxes, and that they are so -/
def Q2C (w : World) (n d m e : Int) (X : World) : Prop := Q2B w n d m e X
theorem q2Keep {w X X' : World} {n d m e : Int} (h : X.cell? ⟨w.heap.size, 0, none⟩ = some (.int .i64 n) ∧ X.cell? ⟨w.heap.size, 1, none⟩ = some (.int .i64 d) ∧ X.cell? ⟨w.heap.size + 1, 0, none⟩ = some (.int .i64 m) ∧ X.cell? ⟨w.heap.size + 1, 1, none⟩ = some (.int .i64 e) ∧ Q2C w n d m e X) (hb : Below X.heap.size X X') :
    X'.cell? ⟨w.heap.size, 0, none⟩ = some (.int .i64 n) ∧ X'.cell? ⟨w.heap.size, 1, none⟩ = some (.int .i64 d) ∧ X'.cell? ⟨w.heap.size + 1, 0, none⟩ = some (.int .i64 m) ∧ X'.cell? ⟨w.heap.size + 1, 1, none⟩ = some (.int .i64 e) ∧ Q2C w n d m e X' := by
  have k : Q2B w n d m e X' := Q2B.below h.2.2.2.2 hb
  exact ⟨k.1.c0, k.1.c1, k.2.1.c0, k.2.1.c1, k⟩
theorem q2Of {w X : World} {n d m e : Int} (h : X.cell? ⟨w.heap.size, 0, none⟩ = some (.int .i64 n) ∧ X.cell? ⟨w.heap.size, 1, none⟩ = some (.int .i64 d) ∧ X.cell? ⟨w.heap.size + 1, 0, none⟩ = some (.int .i64 m) ∧ X.cell? ⟨w.heap.size + 1, 1, none⟩ = some (.int .i64 e) ∧ Q2C w n d m e X) : Q2B w n d m e X := h.2.2.2.2
set_option maxRecDepth 100000 in
set_option maxHeartbeats 2000000 in
theorem wFnExactCountWays_main (n d m e : Int) (ok : Bool) (x : Int)
    (hS : Hid (∀ w, Calls Try.prog 35 #[.agg #[.int .i64 n, .int .i64 d], .agg #[.int .i64 m, .int .i64 e]] w (Ret w (.tuple #[.int .i64 x, .bool ok])))) (hI : Hid (∀ w, Calls Try.prog 36 #[.agg #[.int .i64 n, .int .i64 d], .agg #[.int .i64 m, .int .i64 e]] w (Ret w (.tuple #[.int .i64 x, .bool ok])))) (w : World) :
    Calls Try.prog 7 #[.agg #[.int .i64 n, .int .i64 d], .agg #[.int .i64 m, .int .i64 e]] w fun e w' => e = .returned (.bool true) ∧ Below w.heap.size w w' := by
  have HQ := Lib.hid ((Q2B.new w n d m e 23 23).below (Below.refl _ _).drew)
  have HT : Hid (∀ (a b : Int) (w : World), Calls Try.prog 21 #[.agg #[.int .i64 a, .int .i64 b]] w (Ret w (.agg #[.int .i64 a, .int .i64 b]))) := Lib.hid toCell_any
  go_enter Try.func7, Try.ntmps7
  go_wp2_with fail
  go_region_held3 (fun X => X.cell? ⟨w.heap.size, 0, none⟩ = some (.int .i64 n) ∧ X.cell? ⟨w.heap.size, 1, none⟩ = some (.int .i64 d) ∧ X.cell? ⟨w.heap.size + 1, 0, none⟩ = some (.int .i64 m) ∧ X.cell? ⟨w.heap.size + 1, 1, none⟩ = some (.int .i64 e) ∧ Q2C w n d m e X) (first | exact ⟨HQ.out.1.c0, HQ.out.1.c1, HQ.out.2.1.c0, HQ.out.2.1.c1, HQ.out⟩ | assumption | exact q2Keep (by assumption) (by assumption)) (first | (go_at_call 21; refine (HT.out _ _ _).mono ?_; rintro en w' ⟨rfl, hb'⟩) | (go_at_call 35; refine (hS.out _).mono ?_; rintro en wz ⟨rfl, hbz⟩; have hq : Q2B w n d m e wz := Q2B.below (q2Of (by assumption)) hbz; have HQ2 := Lib.hid (hq.below (Below.refl _ _).drew); clear hq))
  go_wp2_with fail
  go_region_held3 (fun X => X.cell? ⟨w.heap.size, 0, none⟩ = some (.int .i64 n) ∧ X.cell? ⟨w.heap.size, 1, none⟩ = some (.int .i64 d) ∧ X.cell? ⟨w.heap.size + 1, 0, none⟩ = some (.int .i64 m) ∧ X.cell? ⟨w.heap.size + 1, 1, none⟩ = some (.int .i64 e) ∧ Q2C w n d m e X) (first | exact ⟨HQ2.out.1.c0, HQ2.out.1.c1, HQ2.out.2.1.c0, HQ2.out.2.1.c1, HQ2.out⟩ | assumption | exact q2Keep (by assumption) (by assumption)) (first | (go_at_call 21; refine (HT.out _ _ _).mono ?_; rintro en w' ⟨rfl, hb'⟩) | (go_at_call 36; refine (hI.out _).mono ?_; rintro en wy ⟨rfl, hby⟩; have hq : Q2B w n d m e wy := Q2B.below (q2Of (by assumption)) hby; have HQ3 := Lib.hid hq; clear hq))
  go_wp2_with fail
  go_ret
  exact ⟨rfl, HQ3.out.2.2⟩
end Go.Proofs.Ytahnknbggacndaa
