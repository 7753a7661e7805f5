/- The cursor of the laws' draws: path, goodPath. -/
import Derived.Test.YtnmmgpmhpjjehaaCur2
namespace Go.Proofs.Ytnmmgpmhpjjehaa
open Go.RowKit
theorem grown_of_below {w w' : World} (hb : Below w.heap.size w w') (r : Option Nat) : w.grownBy w' r := ⟨hb.os, hb.tape, hb.output, hb.size, fun k hk _ => hb.block k hk⟩
theorem grown_alloc' {w w' : World} {r : Option Nat} (h : w.grownBy w' r) (o : Obj) : w.grownBy (w'.alloc o) r := grown_trans' h (grown_of_below ((Below.refl _ _).alloc (Nat.le_refl _) o) r)
def SizeTo (n : Nat) (s : ByteArray) : Prop := s.size ≤ n
theorem rowUD (w : World) : RowS (w.alloc (.cells #[.string ⟨#[85]⟩, .string ⟨#[68]⟩] 9)) w.heap.size 2 (fun s => s.size = 1) := by
  refine ⟨by simp, fun j hj => ?_⟩
  match j, hj with
  | 0, _ => exact ⟨⟨#[85]⟩, rfl, by simp⟩
  | 1, _ => exact ⟨⟨#[68]⟩, rfl, by simp⟩
theorem size1 (b : UInt8) : (⟨#[b]⟩ : ByteArray).size = 1 := rfl
end Go.Proofs.Ytnmmgpmhpjjehaa
