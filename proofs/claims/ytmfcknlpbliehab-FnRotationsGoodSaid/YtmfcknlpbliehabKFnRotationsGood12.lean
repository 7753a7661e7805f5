/- Pack 12 of what FnRotationsGood needs: Draws, CodeIn. -/
import Derived.Test.YtmfcknlpbliehabKFnRotationsGood11
/- What the laws draw: some path or text of at most 50 bytes. -/
namespace Go.Proofs.Ytmfcknlpbliehab
open Go.RowKit
theorem Cur.new {w : World} {A : Option Addr} {len cap : Nat} (h : CodeAt w w.heap.size A len) : Cur (w.alloc (.cells #[.slice A len cap, .int .i64 0, .int .u64 0] 61)) w.heap.size A len cap 0 := by
  refine ⟨fun j hj => ?_, by simp, ⟨0, by omega, by simp⟩, ⟨0, by omega, by omega, by simp⟩, fun j => by simp, by simp⟩
  obtain ⟨a, x, h1, h2, h3, h4⟩ := h j hj
  exact ⟨a, x, h1, h2, h3, by rw [World.cell?_alloc_lt _ _ _ (by rw [add_block]; exact h2)]; exact h4⟩
theorem CodeAt.below {w w' : World} {A : Option Addr} {len : Nat} (h : CodeAt w w.heap.size A len) (hb : Below w.heap.size w w') : CodeAt w' w'.heap.size A len := fun j hj => by
  obtain ⟨a, x, h1, h2, h3, h4⟩ := h j hj
  exact ⟨a, x, h1, Nat.lt_of_lt_of_le h2 hb.size, h3, (hb.cell (p := a.add j) (by rw [add_block]; exact h2)).trans h4⟩
def StrRet (w : World) (n : Nat) (e : Ending) (w' : World) : Prop := ∃ s : ByteArray, e = .returned (.string s) ∧ s.size ≤ n ∧ Below w.heap.size w w'
theorem below_of_new {w w' : World} {o : Obj} (h : (w.alloc o).grownBy w' (some w.heap.size)) : Below w.heap.size w w' :=
  (((Below.refl _ w).alloc (Nat.le_refl _) o)).grown h (by simp) (fun j hj => by injection hj with hj; omega)
def I64 (n : Int) : Prop := -9223372036854775808 ≤ n ∧ n ≤ 9223372036854775807
theorem rowTimes (w : World) : RowI (w.alloc (.cells #[.int .i64 0, .int .i64 1, .int .i64 (-1), .int .i64 2, .int .i64 5, .int .i64 (-40), .int .i64 4611686018427387904] 3)) w.heap.size 7 I64 := by
  refine ⟨by simp, fun j hj => ?_⟩
  match j, hj with
  | 0, _ => exact ⟨0, by unfold I64; omega, by simp⟩
  | 1, _ => exact ⟨1, by unfold I64; omega, by simp⟩
  | 2, _ => exact ⟨-1, by unfold I64; omega, by simp⟩
  | 3, _ => exact ⟨2, by unfold I64; omega, by simp⟩
  | 4, _ => exact ⟨5, by unfold I64; omega, by simp⟩
  | 5, _ => exact ⟨-40, by unfold I64; omega, by simp⟩
  | 6, _ => exact ⟨4611686018427387904, by unfold I64; omega, by simp⟩
end Go.Proofs.Ytmfcknlpbliehab

/- A slice of bytes that came in. -/
namespace Go.Proofs.Ytmfcknlpbliehab
open Go.RowKit
theorem cell_lt {w : World} {a : Addr} {v : Value} (h : w.cell? a = some v) : a.block < w.heap.size := by
  rcases Nat.lt_or_ge a.block w.heap.size with h1 | h1
  · exact h1
  · exfalso
    unfold World.cell? at h
    rw [Array.getElem?_eq_none h1] at h
    simp at h
/-- what is known of a slice of bytes that came in -/
def IsCode (w : World) (A : Option Addr) (len cap : Nat) : Prop := CodeAt w w.heap.size A len ∧ len ≤ maxLen
theorem IsCode.nil (w : World) : IsCode w none 0 0 := ⟨fun _ h => absurd h (by omega), by unfold maxLen; omega⟩
theorem IsCode.of {w : World} {x : Addr} {l c : Nat} {zs : List Int} (hl : l ≤ c) (hm : c ≤ maxLen) (hz : zs.length = c) (hcell : ∀ i, i < zs.length → w.cell? (x.add i) = some (.int .u8 (zs.getD i 0))) (hwz : ∀ n ∈ zs, (Lit.int .u8 n).wf = true) : IsCode w (some x) l c := by
  refine ⟨fun j hj => ?_, by omega⟩
  have hj2 : j < zs.length := by omega
  have h := hcell j hj2
  have hb := cell_lt h
  rw [add_block] at hb
  have hw := hwz (zs.getD j 0) (by rw [List.getD_eq_getElem?_getD, List.getElem?_eq_getElem hj2]; exact List.getElem_mem hj2)
  generalize zs.getD j 0 = z at *
  have hr : 0 ≤ z ∧ z ≤ 255 := by
    simp [Lit.wf, IntKind.min, IntKind.max, IntKind.signed, IntKind.bits] at hw
    omega
  refine ⟨x, z.toNat, rfl, hb, by omega, ?_⟩
  rw [h]
  congr 2
  omega
end Go.Proofs.Ytmfcknlpbliehab
