/- The cursor of the laws' draws: spoilt, anyPath. -/
import Derived.Test.YtnmmgpmhpjjehaaCur3
import Derived.Test.YtnmmgpmhpjjehaaMarkText
namespace Go.Proofs.Ytnmmgpmhpjjehaa
open Go.RowKit
theorem ext_size (s : ByteArray) (a b : Nat) : (s.extract a b).size ≤ s.size := by
  rw [ByteArray.size_extract]; omega
theorem ext_size2 (s : ByteArray) (a b : Nat) (h : b ≤ s.size) : (s.extract a b).size = b - a := by
  rw [ByteArray.size_extract]; omega
def strLen : Value → Nat
  | .string s => s.size
  | _ => 0
theorem rowPairs (w : World) : RowS (w.alloc (.cells #[.string ⟨#[85, 68]⟩, .string ⟨#[68, 85]⟩, .string ⟨#[85, 85]⟩] 9)) w.heap.size 3 (fun s => s.size = 2) := by
  refine ⟨by simp, fun j hj => ?_⟩
  match j, hj with
  | 0, _ => exact ⟨⟨#[85, 68]⟩, rfl, by simp⟩
  | 1, _ => exact ⟨⟨#[68, 85]⟩, rfl, by simp⟩
  | 2, _ => exact ⟨⟨#[85, 85]⟩, rfl, by simp⟩
end Go.Proofs.Ytnmmgpmhpjjehaa
