/- Lists of ways; ways that are only read. -/
import Derived.Test.YtahnknbggacndaaNcS
namespace Go.Proofs.Ytahnknbggacndaa
open Go.RowKit
set_option linter.unusedVariables false
abbrev Wy := Int × Int × ByteArray
def wg (L : List Wy) (j : Nat) : Wy := L.getD j (0, 0, ⟨#[]⟩)
/-- a slice of ways that is only read -/
structure RWays (w : World) (v : Value) (n : Nat) (L : List Wy) : Prop where
  shape : ∃ A c, v = .slice A n c
  room : ∀ A k c, v = .slice A k c → k ≤ c ∧ c ≤ maxLen
  small : ∀ j, j < n → (wg L j).2.2.size ≤ maxLen
  cells : 0 < n → ∃ g o c, v = .slice (some ⟨g, o, none⟩) n c ∧ g < w.heap.size ∧ ∀ j, j < n → w.cell? ⟨g, o + j * 3, none⟩ = some (.int .i64 (wg L j).1) ∧ w.cell? ⟨g, o + j * 3 + 1, none⟩ = some (.int .i64 (wg L j).2.1) ∧ w.cell? ⟨g, o + j * 3 + 2, none⟩ = some (.string (wg L j).2.2)
theorem RWays.below {w w' : World} {v : Value} {n : Nat} {L : List Wy} (h : RWays w v n L) (hb : Below w.heap.size w w') : RWays w' v n L :=
  ⟨h.shape, h.room, h.small, fun hx => by
    obtain ⟨g, o, c, hv, hg, hc⟩ := h.cells hx
    exact ⟨g, o, c, hv, Nat.lt_of_lt_of_le hg hb.size, fun j hj => ⟨(hb.cell (p := ⟨g, o + j * 3, none⟩) hg).trans (hc j hj).1, (hb.cell (p := ⟨g, o + j * 3 + 1, none⟩) hg).trans (hc j hj).2.1, (hb.cell (p := ⟨g, o + j * 3 + 2, none⟩) hg).trans (hc j hj).2.2⟩⟩⟩
theorem RWays.at {w : World} {n : Nat} {L : List Wy} {g o c : Nat} (h : RWays w (.slice (some ⟨g, o, none⟩) n c) n L) {j : Nat} (hj : j < n) :
    w.cell? ⟨g, o + j * 3, none⟩ = some (.int .i64 (wg L j).1) ∧ w.cell? ⟨g, o + j * 3 + 1, none⟩ = some (.int .i64 (wg L j).2.1) ∧ w.cell? ⟨g, o + j * 3 + 2, none⟩ = some (.string (wg L j).2.2) := by
  obtain ⟨g', o', c', e, _, hc⟩ := h.cells (by omega)
  injection e with e _ e3
  injection e with e
  injection e with e1 e2
  subst e1 e2
  exact hc j hj
end Go.Proofs.Ytahnknbggacndaa
