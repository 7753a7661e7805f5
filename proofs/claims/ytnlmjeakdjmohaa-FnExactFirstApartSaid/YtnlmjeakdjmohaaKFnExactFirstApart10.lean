/- Pack 10 of what FnExactFirstApart needs: WgS, WyLaw. -/
import Derived.Test.YtnlmjeakdjmohaaKFnExactFirstApart9
/- Lists of ways; ways that are only read. -/
namespace Go.Proofs.Ytnlmjeakdjmohaa
open Go.RowKit
set_option linter.unusedVariables false
abbrev Wy := Int × Int × ByteArray
def wg (L : List Wy) (j : Nat) : Wy := L.getD j (0, 0, ⟨#[]⟩)
/-- a slice of ways that is only read -/
structure RWays (w : World) (v : Value) (n : Nat) (L : List Wy) : Prop where
  shape : ∃ A c, v = .slice A n c
  room : ∀ A k c, v = .slice A k c → k ≤ c ∧ c ≤ maxLen
  small : ∀ j, j < n → (wg L j).2.2.size ≤ maxLen
  cells : 0 < n → ∃ g o c, v = .slice (some ⟨g, o, none⟩) n c ∧ g < w.heap.size ∧ ∀ j, j < n → w.cell? ⟨g, o + j * 3, none⟩ = some (.int .i64 (wg L j).1) ∧ w.cell? ⟨g, o + j * 3 + 1, none⟩ = some (.int .i64 (wg L j).2.1) ∧ w.cell? ⟨g, o + j * 3 + 2, none⟩ = some (.string (wg L j).2.2)
theorem RWays.below {w w' : World} {v : Value} {n : Nat} {L : List Wy} (h : RWays w v n L) (hb : Below w.heap.size w w') : RWays w' v n L :=
  ⟨h.shape, h.room, h.small, fun hx => by
    obtain ⟨g, o, c, hv, hg, hc⟩ := h.cells hx
    exact ⟨g, o, c, hv, Nat.lt_of_lt_of_le hg hb.size, fun j hj => ⟨(hb.cell (p := ⟨g, o + j * 3, none⟩) hg).trans (hc j hj).1, (hb.cell (p := ⟨g, o + j * 3 + 1, none⟩) hg).trans (hc j hj).2.1, (hb.cell (p := ⟨g, o + j * 3 + 2, none⟩) hg).trans (hc j hj).2.2⟩⟩⟩
theorem RWays.at {w : World} {n : Nat} {L : List Wy} {g o c : Nat} (h : RWays w (.slice (some ⟨g, o, none⟩) n c) n L) {j : Nat} (hj : j < n) :
    w.cell? ⟨g, o + j * 3, none⟩ = some (.int .i64 (wg L j).1) ∧ w.cell? ⟨g, o + j * 3 + 1, none⟩ = some (.int .i64 (wg L j).2.1) ∧ w.cell? ⟨g, o + j * 3 + 2, none⟩ = some (.string (wg L j).2.2) := by
  obtain ⟨g', o', c', e, _, hc⟩ := h.cells (by omega)
  injection e with e _ e3
  injection e with e
  injection e with e1 e2
  subst e1 e2
  exact hc j hj
end Go.Proofs.Ytnlmjeakdjmohaa

/- The laws' own words on ways: sizes, copies, comparisons. -/
namespace Go.Proofs.Ytnlmjeakdjmohaa
open Go.RowKit
set_option linter.unusedVariables false
/-- a way in a box -/
structure WB (b : Nat) (x y : Int) (s : ByteArray) (X : World) : Prop where
  c0 : X.cell? ⟨b, 0, none⟩ = some (.int .i64 x)
  c1 : X.cell? ⟨b, 1, none⟩ = some (.int .i64 y)
  c2 : X.cell? ⟨b, 2, none⟩ = some (.string s)
  lt : b < X.heap.size
theorem WB.below {b : Nat} {x y : Int} {s : ByteArray} {X X' : World} (h : WB b x y s X) (hb : Below X.heap.size X X') : WB b x y s X' :=
  ⟨(hb.cell (p := ⟨b, 0, none⟩) h.lt).trans h.c0, (hb.cell (p := ⟨b, 1, none⟩) h.lt).trans h.c1, (hb.cell (p := ⟨b, 2, none⟩) h.lt).trans h.c2, Nat.lt_of_lt_of_le h.lt hb.size⟩
theorem WB.new (X : World) (x y : Int) (s : ByteArray) (t : TypeId) : WB X.heap.size x y s (X.alloc (.cells #[.int .i64 x, .int .i64 y, .string s] t)) := ⟨by simp [go_sem], by simp [go_sem], by simp [go_sem], by simp⟩
def szW (s : ByteArray) (left : Int) : Int := if left - (s.size : Int) < 0 then -1 else left - (s.size : Int)
theorem eqWay_any (x y : Int) (s : ByteArray) (w : World) : Calls Try.prog 77 #[wayV x y s, wayV x y s] w (Ret w (.bool true)) := by
  have HX := Lib.hid ((WB.new w x y s 56).below ((Below.refl _ _).alloc (Nat.le_refl _) (.cells #[.int .i64 x, .int .i64 y, .string s] 56)))
  have HY := Lib.hid (WB.new (w.alloc (.cells #[.int .i64 x, .int .i64 y, .string s] 56)) x y s 56)
  have hsz : (w.alloc (.cells #[.int .i64 x, .int .i64 y, .string s] 56)).heap.size = w.heap.size + 1 := by simp
  rw [hsz] at HY
  have hb0 : Below w.heap.size w ((w.alloc (.cells #[.int .i64 x, .int .i64 y, .string s] 56)).alloc (.cells #[.int .i64 x, .int .i64 y, .string s] 56)) := ((Below.refl _ _).alloc (Nat.le_refl _) _).alloc (by simp) _
  have a0 := HX.out.c0
  have a1 := HX.out.c1
  have b0 := HY.out.c0
  have b1 := HY.out.c1
  go_enter Try.func77, Try.ntmps77
  go_wp2_with fail
  refine (eqCell_any x y _).mono ?_
  rintro e w1 ⟨rfl, hb1⟩
  have hX := HX.out.below hb1
  have hY := HY.out.below hb1
  have hB := hb0.trans (hb1.mono hb0.size)
  clear a0 a1 b0 b1
  have a2 := hX.c2
  have b2 := hY.c2
  clear hX hY HX HY hb0 hsz
  go_wp2_with fail
  go_ret
  exact ⟨rfl, hB⟩
theorem three_put (X : World) (h : Nat) {u0 u1 u2 : Value} (x y z : Value) (e0 : X.cell? ⟨h, 0, none⟩ = some u0) (e1 : X.cell? ⟨h, 1, none⟩ = some u1) (e2 : X.cell? ⟨h, 2, none⟩ = some u2) :
    (((X.setCell ⟨h, 0, none⟩ x).setCell ⟨h, 1, none⟩ y).setCell ⟨h, 2, none⟩ z).cell? ⟨h, 0, none⟩ = some x ∧ (((X.setCell ⟨h, 0, none⟩ x).setCell ⟨h, 1, none⟩ y).setCell ⟨h, 2, none⟩ z).cell? ⟨h, 1, none⟩ = some y ∧ (((X.setCell ⟨h, 0, none⟩ x).setCell ⟨h, 1, none⟩ y).setCell ⟨h, 2, none⟩ z).cell? ⟨h, 2, none⟩ = some z ∧
    (∀ b o, b ≠ h → (((X.setCell ⟨h, 0, none⟩ x).setCell ⟨h, 1, none⟩ y).setCell ⟨h, 2, none⟩ z).cell? ⟨b, o, none⟩ = X.cell? ⟨b, o, none⟩) := by
  refine ⟨?_, ?_, ?_, ?_⟩
  · rw [World.cell?_setCell_other _ _ _ _ (by simp), World.cell?_setCell_other _ _ _ _ (by simp)]
    exact World.cell?_setCell_same' _ _ _ (by rw [e0]; rfl)
  · rw [World.cell?_setCell_other _ _ _ _ (by simp)]
    exact World.cell?_setCell_same' _ _ _ (by rw [World.cell?_setCell_other _ _ _ _ (by simp), e1]; rfl)
  · exact World.cell?_setCell_same' _ _ _ (by rw [World.cell?_setCell_other _ _ _ _ (by simp), World.cell?_setCell_other _ _ _ _ (by simp), e2]; rfl)
  · intro b o hb
    have hne : ∀ q, (⟨b, o, none⟩ : Addr) ≠ ⟨h, q, none⟩ := fun q e => hb (by injection e)
    rw [World.cell?_setCell_other _ _ _ _ (by first | exact hne _ | exact (hne _).symm), World.cell?_setCell_other _ _ _ _ (by first | exact hne _ | exact (hne _).symm), World.cell?_setCell_other _ _ _ _ (by first | exact hne _ | exact (hne _).symm)]
/-- while a way is copied: the one that came, the result's box, the copy's box -/
structure TW (w : World) (x y : Int) (s : ByteArray) (p q : Int) (r : ByteArray) (X : World) : Prop where
  a : WB w.heap.size x y s X
  z : WB (w.heap.size + 1) 0 0 ⟨#[]⟩ X
  c : WB (w.heap.size + 2) p q r X
  f0 : X.frozen? ⟨w.heap.size + 1, 0, none⟩ = false
  f1 : X.frozen? ⟨w.heap.size + 1, 1, none⟩ = false
  f2 : X.frozen? ⟨w.heap.size + 1, 2, none⟩ = false
  g0 : X.frozen? ⟨w.heap.size + 2, 0, none⟩ = false
  g1 : X.frozen? ⟨w.heap.size + 2, 1, none⟩ = false
  g2 : X.frozen? ⟨w.heap.size + 2, 2, none⟩ = false
  below : Below w.heap.size w X
theorem TW.kept {w X X' : World} {x y p q : Int} {s r : ByteArray} (h : TW w x y s p q r X) (hb : Below X.heap.size X X') : TW w x y s p q r X' :=
  ⟨h.a.below hb, h.z.below hb, h.c.below hb, (hb.frozen (p := ⟨w.heap.size + 1, 0, none⟩) h.z.lt).trans h.f0, (hb.frozen (p := ⟨w.heap.size + 1, 1, none⟩) h.z.lt).trans h.f1, (hb.frozen (p := ⟨w.heap.size + 1, 2, none⟩) h.z.lt).trans h.f2,
    (hb.frozen (p := ⟨w.heap.size + 2, 0, none⟩) h.c.lt).trans h.g0, (hb.frozen (p := ⟨w.heap.size + 2, 1, none⟩) h.c.lt).trans h.g1, (hb.frozen (p := ⟨w.heap.size + 2, 2, none⟩) h.c.lt).trans h.g2, h.below.trans (hb.mono h.below.size)⟩
end Go.Proofs.Ytnlmjeakdjmohaa
