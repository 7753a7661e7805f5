/- Pack 20 of what FnBoldPlay needs: SchS, CodeIn. -/
import Derived.Test.YthgblfldncidnaaKFnBoldPlay19
/- The model's CountSchroder. -/
namespace Go.Proofs.Ythgblfldncidnaa
open Go.RowKit
set_option linter.unusedVariables false
end Go.Proofs.Ythgblfldncidnaa

/- A slice of bytes that came in. -/
namespace Go.Proofs.Ythgblfldncidnaa
open Go.RowKit
theorem cell_lt {w : World} {a : Addr} {v : Value} (h : w.cell? a = some v) : a.block < w.heap.size := by
  rcases Nat.lt_or_ge a.block w.heap.size with h1 | h1
  · exact h1
  · exfalso
    unfold World.cell? at h
    rw [Array.getElem?_eq_none h1] at h
    simp at h
/-- what is known of a slice of bytes that came in -/
def IsCode (w : World) (A : Option Addr) (len cap : Nat) : Prop := CodeAt w w.heap.size A len ∧ len ≤ maxLen
theorem IsCode.nil (w : World) : IsCode w none 0 0 := ⟨fun _ h => absurd h (by omega), by unfold maxLen; omega⟩
theorem IsCode.of {w : World} {x : Addr} {l c : Nat} {zs : List Int} (hl : l ≤ c) (hm : c ≤ maxLen) (hz : zs.length = c) (hcell : ∀ i, i < zs.length → w.cell? (x.add i) = some (.int .u8 (zs.getD i 0))) (hwz : ∀ n ∈ zs, (Lit.int .u8 n).wf = true) : IsCode w (some x) l c := by
  refine ⟨fun j hj => ?_, by omega⟩
  have hj2 : j < zs.length := by omega
  have h := hcell j hj2
  have hb := cell_lt h
  rw [add_block] at hb
  have hw := hwz (zs.getD j 0) (by rw [List.getD_eq_getElem?_getD, List.getElem?_eq_getElem hj2]; exact List.getElem_mem hj2)
  generalize zs.getD j 0 = z at *
  have hr : 0 ≤ z ∧ z ≤ 255 := by
    simp [Lit.wf, IntKind.min, IntKind.max, IntKind.signed, IntKind.bits] at hw
    omega
  refine ⟨x, z.toNat, rfl, hb, by omega, ?_⟩
  rw [h]
  congr 2
  omega
end Go.Proofs.Ythgblfldncidnaa
