/- The model's CountMixed, CountNoFloor, CountColors. -/
import Derived.Test.YtahnknbggacndaaKcS
import Derived.Test.YtahnknbggacndaaDeg
import Derived.Test.YtahnknbggacndaaInB
namespace Go.Proofs.Ytahnknbggacndaa
open Go.RowKit
set_option linter.unusedVariables false
theorem nil_ints (w : World) : RInts w (.slice none 0 0) [] := ⟨⟨_, _, rfl⟩, fun A n c e => by injection e with e1 e2 e3; subst e2 e3; exact ⟨Nat.le_refl _, by simp [maxLen]⟩, fun h0 => absurd h0 (by simp)⟩
theorem lit1 (w : World) (x : Int) : RInts (w.alloc (.cells #[.int .i64 x] 3)) (.slice (some ⟨w.heap.size, 0, none⟩) 1 1) [x] :=
  RInts.of_row (B := w.heap.size) (IRow.of_own (World.ownsRow_lit w #[.int .i64 x] 1 (Nat.le_refl _) (by simp [maxLen]) rfl) (by simp) (by simp))
theorem lit3 (w : World) (x y z : Int) : RInts (w.alloc (.cells #[.int .i64 x, .int .i64 y, .int .i64 z] 3)) (.slice (some ⟨w.heap.size, 0, none⟩) 3 3) [x, y, z] :=
  RInts.of_row (B := w.heap.size) (IRow.of_own (World.ownsRow_lit w #[.int .i64 x, .int .i64 y, .int .i64 z] 3 (Nat.le_refl _) (by simp [maxLen]) rfl) (by simp) (by simp))
def ksB (n : Int) (xs : List Int) : Bool := inB n 0 12 && allB xs 0 9
theorem inB_iff {a lo hi : Int} (h : inB a lo hi = true) : lo ≤ a ∧ a ≤ hi := by
  unfold inB at h
  simpa only [Bool.and_eq_true, decide_eq_true_eq] using h
theorem inBd_iff {a lo hi : Int} (h : inBd lo hi a = true) : lo ≤ a ∧ a ≤ hi := by
  unfold inBd at h
  simpa only [Bool.and_eq_true, decide_eq_true_eq] using h
def cmOk (n f : Int) : Bool := ksB n [f]
def cmV (n f : Int) : Int := if cmOk n f = true then kcN n.toNat 1 f.toNat 1 true else 0
def cfOk (n : Int) : Bool := ksB n []
def cfV (n : Int) : Int := if cfOk n = true then kcN n.toNat 1 1 1 false else 0
def ccOk (n u f d : Int) : Bool := ksB n [u, f, d]
def ccV (n u f d : Int) : Int := if ccOk n u f d = true then kcN n.toNat u.toNat f.toNat d.toNat true else 0
theorem ksB_of {n : Int} {xs : List Int} (h : ksB n xs = true) : (0 ≤ n ∧ n ≤ 12) ∧ ∀ x ∈ xs, 0 ≤ x ∧ x ≤ 9 := by
  unfold ksB allB at h
  rw [Bool.and_eq_true, List.all_eq_true] at h
  exact ⟨inB_iff h.1, fun x hx => inBd_iff (h.2 x hx)⟩
end Go.Proofs.Ytahnknbggacndaa
