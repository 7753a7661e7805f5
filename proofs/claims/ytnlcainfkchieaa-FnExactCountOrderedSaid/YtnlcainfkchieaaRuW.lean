/- The model's ruPower, ruAsked, ruWin. -/
import Derived.Test.YtnlcainfkchieaaRuS
namespace Go.Proofs.Ytnlcainfkchieaa
open Go.RowKit
set_option linter.unusedVariables false
theorem pow6 {x : Int} (hx : 0 ≤ x ∧ x ≤ 6) {k : Nat} (hk : k ≤ 18) : 0 ≤ x ^ k ∧ x ^ k ≤ 101559956668416 := by
  obtain ⟨a, rfl⟩ := Int.eq_ofNat_of_zero_le hx.1
  rw [← pow_cast]
  have h1 : a ^ k ≤ 6 ^ k := Nat.pow_le_pow_left (by omega) k
  have h2 : (6 : Nat) ^ k ≤ 6 ^ 18 := Nat.pow_le_pow_right (by omega) hk
  have h3 : (6 : Nat) ^ 18 = 101559956668416 := by decide
  omega
/-- an empty ratio at b, in a world behind w -/
structure ZBox (w : World) (b : Nat) (W : World) : Prop where
  c0 : W.cell? ⟨b, 0, none⟩ = some (.int .i64 0)
  c1 : W.cell? ⟨b, 1, none⟩ = some (.int .i64 0)
  f0 : W.frozen? ⟨b, 0, none⟩ = false
  f1 : W.frozen? ⟨b, 1, none⟩ = false
  lt : b < W.heap.size
  lo : w.heap.size ≤ b
  below : Below w.heap.size w W
theorem ZBox.kept {w W W' : World} {b : Nat} (h : ZBox w b W) (hb : Below W.heap.size W W') : ZBox w b W' :=
  ⟨(hb.cell (p := ⟨b, 0, none⟩) h.lt).trans h.c0, (hb.cell (p := ⟨b, 1, none⟩) h.lt).trans h.c1, (hb.frozen (p := ⟨b, 0, none⟩) h.lt).trans h.f0, (hb.frozen (p := ⟨b, 1, none⟩) h.lt).trans h.f1, Nat.lt_of_lt_of_le h.lt hb.size, h.lo, h.below.trans (hb.mono h.below.size)⟩
theorem ZBox.done {w W : World} {b : Nat} (h : ZBox w b W) (x y : Int) :
    ((W.setCell ⟨b, 0, none⟩ (.int .i64 x)).setCell ⟨b, 1, none⟩ (.int .i64 y)).cell? ⟨b, 0, none⟩ = some (.int .i64 x) ∧ ((W.setCell ⟨b, 0, none⟩ (.int .i64 x)).setCell ⟨b, 1, none⟩ (.int .i64 y)).cell? ⟨b, 1, none⟩ = some (.int .i64 y) ∧
    Below w.heap.size w ((W.setCell ⟨b, 0, none⟩ (.int .i64 x)).setCell ⟨b, 1, none⟩ (.int .i64 y)) :=
  ⟨(World.cell?_setCell_other _ _ _ _ (by simp)).trans (World.cell?_setCell_same' _ _ _ (by rw [h.c0]; rfl)), World.cell?_setCell_same' _ _ _ (by rw [World.cell?_setCell_other _ _ _ _ (by simp), h.c1]; rfl),
    (h.below.setCell (p := ⟨b, 0, none⟩) h.lo _).setCell (p := ⟨b, 1, none⟩) h.lo _⟩
theorem wp_nameR {P : Program} {c : Code} {Q : Exit → Act → World → Prop} {a : Act} {w : World} (S : World → Prop) (h : S w) (k : ∀ W, S W → c.wp P Q a W) : c.wp P Q a w := k w h
end Go.Proofs.Ytnlcainfkchieaa
