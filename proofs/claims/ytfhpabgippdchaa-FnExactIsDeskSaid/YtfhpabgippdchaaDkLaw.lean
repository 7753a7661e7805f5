/- The laws' own words on desks: sizes, copies, comparisons. -/
import Derived.Test.YtfhpabgippdchaaQbS
namespace Go.Proofs.Ytfhpabgippdchaa
open Go.RowKit
set_option linter.unusedVariables false
abbrev dkV (p k : ByteArray) : Value := .agg #[.string p, .string k]
/-- a desk in a box -/
structure DB (b : Nat) (x y : ByteArray) (X : World) : Prop where
  c0 : X.cell? ⟨b, 0, none⟩ = some (.string x)
  c1 : X.cell? ⟨b, 1, none⟩ = some (.string y)
  lt : b < X.heap.size
theorem DB.below {b : Nat} {x y : ByteArray} {X X' : World} (h : DB b x y X) (hb : Below X.heap.size X X') : DB b x y X' :=
  ⟨(hb.cell (p := ⟨b, 0, none⟩) h.lt).trans h.c0, (hb.cell (p := ⟨b, 1, none⟩) h.lt).trans h.c1, Nat.lt_of_lt_of_le h.lt hb.size⟩
theorem DB.new (X : World) (x y : ByteArray) (t : TypeId) : DB X.heap.size x y (X.alloc (.cells #[.string x, .string y] t)) := ⟨by simp [go_sem], by simp [go_sem], by simp⟩
set_option maxHeartbeats 800000 in
theorem toDesk_any (p k : ByteArray) (w : World) : Calls Try.prog 10 #[dkV p k] w (Ret w (dkV p k)) := by
  go_enter Try.func10, Try.ntmps10
  go_wp2
  exact bodyPost_ret (v := dkV p k) (by simp [results, Try.f10, go_sem]) rfl ⟨rfl, (((Below.refl _ _).alloc (Nat.le_refl _) _).alloc (by simp) _).alloc (by simp; omega) _⟩
theorem eqDesk_any (p k : ByteArray) (w : World) : Calls Try.prog 7 #[dkV p k, dkV p k] w (Ret w (.bool true)) := by
  go_enter Try.func7, Try.ntmps7
  go_wp2
  go_ret
  exact ⟨rfl, ((Below.refl _ _).alloc (Nat.le_refl _) _).alloc (by simp) _⟩
def szD (p k : ByteArray) (left : Int) : Int := if left - (p.size : Int) < 0 then -1 else if left - (p.size : Int) - (k.size : Int) < 0 then -1 else left - (p.size : Int) - (k.size : Int)
set_option maxHeartbeats 800000 in
theorem szDesk_any (p k : ByteArray) (left : Int) (w : World) (hp : p.size ≤ maxLen) (hk : k.size ≤ maxLen) (hl : 0 ≤ left ∧ left ≤ 1048576) : Calls Try.prog 8 #[dkV p k, .int .i64 left] w (Ret w (.int .i64 (szD p k left))) := by
  have hm : maxLen ≤ 9223372036854775807 := by simp [maxLen]
  have h1 : 0 ≤ (p.size : Int) := by omega
  have h2 : (p.size : Int) ≤ 9223372036854775807 := by omega
  have h3 : 0 ≤ (k.size : Int) := by omega
  have h4 : (k.size : Int) ≤ 9223372036854775807 := by omega
  unfold szD
  by_cases hlt : left - (p.size : Int) < 0
  · rw [if_pos hlt]
    go_enter Try.func8, Try.ntmps8
    go_wp2
    go_ret
    exact ⟨rfl, (Below.refl _ _).alloc (Nat.le_refl _) _⟩
  · rw [if_neg hlt]
    by_cases hlt2 : left - (p.size : Int) - (k.size : Int) < 0
    · rw [if_pos hlt2]
      go_enter Try.func8, Try.ntmps8
      go_wp2
      go_ret
      exact ⟨rfl, (Below.refl _ _).alloc (Nat.le_refl _) _⟩
    · rw [if_neg hlt2]
      go_enter Try.func8, Try.ntmps8
      go_wp2
      go_ret
      exact ⟨rfl, (Below.refl _ _).alloc (Nat.le_refl _) _⟩
end Go.Proofs.Ytfhpabgippdchaa
