/- Pack 5 of what FnBoldPlay needs: Cur4, Draws. -/
import Derived.Test.YthgblfldncidnaaKFnBoldPlay4
/- The cursor of the laws' draws: spoilt, anyPath. -/
namespace Go.Proofs.Ythgblfldncidnaa
open Go.RowKit
theorem ext_size (s : ByteArray) (a b : Nat) : (s.extract a b).size ≤ s.size := by
  rw [ByteArray.size_extract]; omega
theorem ext_size2 (s : ByteArray) (a b : Nat) (h : b ≤ s.size) : (s.extract a b).size = b - a := by
  rw [ByteArray.size_extract]; omega
def strLen : Value → Nat
  | .string s => s.size
  | _ => 0
theorem rowPairs (w : World) : RowS (w.alloc (.cells #[.string ⟨#[85, 68]⟩, .string ⟨#[68, 85]⟩, .string ⟨#[85, 85]⟩] 9)) w.heap.size 3 (fun s => s.size = 2) := by
  refine ⟨by simp, fun j hj => ?_⟩
  match j, hj with
  | 0, _ => exact ⟨⟨#[85, 68]⟩, rfl, by simp⟩
  | 1, _ => exact ⟨⟨#[68, 85]⟩, rfl, by simp⟩
  | 2, _ => exact ⟨⟨#[85, 85]⟩, rfl, by simp⟩
end Go.Proofs.Ythgblfldncidnaa

/- What the laws draw: some path or text of at most 50 bytes. -/
namespace Go.Proofs.Ythgblfldncidnaa
open Go.RowKit
theorem Cur.new {w : World} {A : Option Addr} {len cap : Nat} (h : CodeAt w w.heap.size A len) : Cur (w.alloc (.cells #[.slice A len cap, .int .i64 0, .int .u64 0] 37)) w.heap.size A len cap 0 := by
  refine ⟨fun j hj => ?_, by simp, ⟨0, by omega, by simp⟩, ⟨0, by omega, by omega, by simp⟩, fun j => by simp, by simp⟩
  obtain ⟨a, x, h1, h2, h3, h4⟩ := h j hj
  exact ⟨a, x, h1, h2, h3, by rw [World.cell?_alloc_lt _ _ _ (by rw [add_block]; exact h2)]; exact h4⟩
theorem CodeAt.below {w w' : World} {A : Option Addr} {len : Nat} (h : CodeAt w w.heap.size A len) (hb : Below w.heap.size w w') : CodeAt w' w'.heap.size A len := fun j hj => by
  obtain ⟨a, x, h1, h2, h3, h4⟩ := h j hj
  exact ⟨a, x, h1, Nat.lt_of_lt_of_le h2 hb.size, h3, (hb.cell (p := a.add j) (by rw [add_block]; exact h2)).trans h4⟩
def StrRet (w : World) (n : Nat) (e : Ending) (w' : World) : Prop := ∃ s : ByteArray, e = .returned (.string s) ∧ s.size ≤ n ∧ Below w.heap.size w w'
theorem below_of_new {w w' : World} {o : Obj} (h : (w.alloc o).grownBy w' (some w.heap.size)) : Below w.heap.size w w' :=
  (((Below.refl _ w).alloc (Nat.le_refl _) o)).grown h (by simp) (fun j hj => by injection hj with hj; omega)
def I64 (n : Int) : Prop := -9223372036854775808 ≤ n ∧ n ≤ 9223372036854775807
theorem rowTimes (w : World) : RowI (w.alloc (.cells #[.int .i64 0, .int .i64 1, .int .i64 (-1), .int .i64 2, .int .i64 5, .int .i64 (-40), .int .i64 4611686018427387904] 3)) w.heap.size 7 I64 := by
  refine ⟨by simp, fun j hj => ?_⟩
  match j, hj with
  | 0, _ => exact ⟨0, by unfold I64; omega, by simp⟩
  | 1, _ => exact ⟨1, by unfold I64; omega, by simp⟩
  | 2, _ => exact ⟨-1, by unfold I64; omega, by simp⟩
  | 3, _ => exact ⟨2, by unfold I64; omega, by simp⟩
  | 4, _ => exact ⟨5, by unfold I64; omega, by simp⟩
  | 5, _ => exact ⟨-40, by unfold I64; omega, by simp⟩
  | 6, _ => exact ⟨4611686018427387904, by unfold I64; omega, by simp⟩
end Go.Proofs.Ythgblfldncidnaa
