/- The laws' own words on ways: sizes, copies, comparisons. -/
import Derived.Test.YtahnknbggacndaaCqLaw
import Derived.Test.YtahnknbggacndaaNcS
namespace Go.Proofs.Ytahnknbggacndaa
open Go.RowKit
set_option linter.unusedVariables false
/-- a way in a box -/
structure WB (b : Nat) (x y : Int) (s : ByteArray) (X : World) : Prop where
  c0 : X.cell? ⟨b, 0, none⟩ = some (.int .i64 x)
  c1 : X.cell? ⟨b, 1, none⟩ = some (.int .i64 y)
  c2 : X.cell? ⟨b, 2, none⟩ = some (.string s)
  lt : b < X.heap.size
theorem WB.below {b : Nat} {x y : Int} {s : ByteArray} {X X' : World} (h : WB b x y s X) (hb : Below X.heap.size X X') : WB b x y s X' :=
  ⟨(hb.cell (p := ⟨b, 0, none⟩) h.lt).trans h.c0, (hb.cell (p := ⟨b, 1, none⟩) h.lt).trans h.c1, (hb.cell (p := ⟨b, 2, none⟩) h.lt).trans h.c2, Nat.lt_of_lt_of_le h.lt hb.size⟩
theorem WB.new (X : World) (x y : Int) (s : ByteArray) (t : TypeId) : WB X.heap.size x y s (X.alloc (.cells #[.int .i64 x, .int .i64 y, .string s] t)) := ⟨by simp [go_sem], by simp [go_sem], by simp [go_sem], by simp⟩
def szW (s : ByteArray) (left : Int) : Int := if left - (s.size : Int) < 0 then -1 else left - (s.size : Int)
set_option maxHeartbeats 800000 in
theorem szWay_any (x y : Int) (s : ByteArray) (left : Int) (w : World) (hs : s.size ≤ maxLen) (hl : 0 ≤ left ∧ left ≤ 1048576) : Calls Try.prog 23 #[wayV x y s, .int .i64 left] w (Ret w (.int .i64 (szW s left))) := by
  have hm : maxLen ≤ 9223372036854775807 := by simp [maxLen]
  have HX := Lib.hid (WB.new w x y s 29)
  have c2 := HX.out.c2
  have hb0 : Below w.heap.size w (w.alloc (.cells #[.int .i64 x, .int .i64 y, .string s] 29)) := (Below.refl _ _).alloc (Nat.le_refl _) _
  have h1 : 0 ≤ (s.size : Int) := by omega
  have h2 : (s.size : Int) ≤ 9223372036854775807 := by omega
  unfold szW
  by_cases hlt : left - (s.size : Int) < 0
  · rw [if_pos hlt]
    go_enter Try.func23, Try.ntmps23
    go_wp2
    go_ret
    exact ⟨rfl, hb0⟩
  · rw [if_neg hlt]
    go_enter Try.func23, Try.ntmps23
    go_wp2
    go_ret
    exact ⟨rfl, hb0⟩
theorem eqWay_any (x y : Int) (s : ByteArray) (w : World) : Calls Try.prog 48 #[wayV x y s, wayV x y s] w (Ret w (.bool true)) := by
  have HX := Lib.hid ((WB.new w x y s 33).below ((Below.refl _ _).alloc (Nat.le_refl _) (.cells #[.int .i64 x, .int .i64 y, .string s] 33)))
  have HY := Lib.hid (WB.new (w.alloc (.cells #[.int .i64 x, .int .i64 y, .string s] 33)) x y s 33)
  have hsz : (w.alloc (.cells #[.int .i64 x, .int .i64 y, .string s] 33)).heap.size = w.heap.size + 1 := by simp
  rw [hsz] at HY
  have hb0 : Below w.heap.size w ((w.alloc (.cells #[.int .i64 x, .int .i64 y, .string s] 33)).alloc (.cells #[.int .i64 x, .int .i64 y, .string s] 33)) := ((Below.refl _ _).alloc (Nat.le_refl _) _).alloc (by simp) _
  have a0 := HX.out.c0
  have a1 := HX.out.c1
  have b0 := HY.out.c0
  have b1 := HY.out.c1
  go_enter Try.func48, Try.ntmps48
  go_wp2_with fail
  refine (eqCell_any x y _).mono ?_
  rintro e w1 ⟨rfl, hb1⟩
  have hX := HX.out.below hb1
  have hY := HY.out.below hb1
  have hB := hb0.trans (hb1.mono hb0.size)
  clear a0 a1 b0 b1
  have a2 := hX.c2
  have b2 := hY.c2
  clear hX hY HX HY hb0 hsz
  go_wp2_with fail
  go_ret
  exact ⟨rfl, hB⟩
theorem three_put (X : World) (h : Nat) {u0 u1 u2 : Value} (x y z : Value) (e0 : X.cell? ⟨h, 0, none⟩ = some u0) (e1 : X.cell? ⟨h, 1, none⟩ = some u1) (e2 : X.cell? ⟨h, 2, none⟩ = some u2) :
    (((X.setCell ⟨h, 0, none⟩ x).setCell ⟨h, 1, none⟩ y).setCell ⟨h, 2, none⟩ z).cell? ⟨h, 0, none⟩ = some x ∧ (((X.setCell ⟨h, 0, none⟩ x).setCell ⟨h, 1, none⟩ y).setCell ⟨h, 2, none⟩ z).cell? ⟨h, 1, none⟩ = some y ∧ (((X.setCell ⟨h, 0, none⟩ x).setCell ⟨h, 1, none⟩ y).setCell ⟨h, 2, none⟩ z).cell? ⟨h, 2, none⟩ = some z ∧
    (∀ b o, b ≠ h → (((X.setCell ⟨h, 0, none⟩ x).setCell ⟨h, 1, none⟩ y).setCell ⟨h, 2, none⟩ z).cell? ⟨b, o, none⟩ = X.cell? ⟨b, o, none⟩) := by
  refine ⟨?_, ?_, ?_, ?_⟩
  · rw [World.cell?_setCell_other _ _ _ _ (by simp), World.cell?_setCell_other _ _ _ _ (by simp)]
    exact World.cell?_setCell_same' _ _ _ (by rw [e0]; rfl)
  · rw [World.cell?_setCell_other _ _ _ _ (by simp)]
    exact World.cell?_setCell_same' _ _ _ (by rw [World.cell?_setCell_other _ _ _ _ (by simp), e1]; rfl)
  · exact World.cell?_setCell_same' _ _ _ (by rw [World.cell?_setCell_other _ _ _ _ (by simp), World.cell?_setCell_other _ _ _ _ (by simp), e2]; rfl)
  · intro b o hb
    have hne : ∀ q, (⟨b, o, none⟩ : Addr) ≠ ⟨h, q, none⟩ := fun q e => hb (by injection e)
    rw [World.cell?_setCell_other _ _ _ _ (by first | exact hne _ | exact (hne _).symm), World.cell?_setCell_other _ _ _ _ (by first | exact hne _ | exact (hne _).symm), World.cell?_setCell_other _ _ _ _ (by first | exact hne _ | exact (hne _).symm)]
/-- while a way is copied: the one that came, the result's box, the copy's box -/
structure TW (w : World) (x y : Int) (s : ByteArray) (p q : Int) (r : ByteArray) (X : World) : Prop where
  a : WB w.heap.size x y s X
  z : WB (w.heap.size + 1) 0 0 ⟨#[]⟩ X
  c : WB (w.heap.size + 2) p q r X
  f0 : X.frozen? ⟨w.heap.size + 1, 0, none⟩ = false
  f1 : X.frozen? ⟨w.heap.size + 1, 1, none⟩ = false
  f2 : X.frozen? ⟨w.heap.size + 1, 2, none⟩ = false
  g0 : X.frozen? ⟨w.heap.size + 2, 0, none⟩ = false
  g1 : X.frozen? ⟨w.heap.size + 2, 1, none⟩ = false
  g2 : X.frozen? ⟨w.heap.size + 2, 2, none⟩ = false
  below : Below w.heap.size w X
theorem TW.kept {w X X' : World} {x y p q : Int} {s r : ByteArray} (h : TW w x y s p q r X) (hb : Below X.heap.size X X') : TW w x y s p q r X' :=
  ⟨h.a.below hb, h.z.below hb, h.c.below hb, (hb.frozen (p := ⟨w.heap.size + 1, 0, none⟩) h.z.lt).trans h.f0, (hb.frozen (p := ⟨w.heap.size + 1, 1, none⟩) h.z.lt).trans h.f1, (hb.frozen (p := ⟨w.heap.size + 1, 2, none⟩) h.z.lt).trans h.f2,
    (hb.frozen (p := ⟨w.heap.size + 2, 0, none⟩) h.c.lt).trans h.g0, (hb.frozen (p := ⟨w.heap.size + 2, 1, none⟩) h.c.lt).trans h.g1, (hb.frozen (p := ⟨w.heap.size + 2, 2, none⟩) h.c.lt).trans h.g2, h.below.trans (hb.mono h.below.size)⟩
theorem TW.start (w : World) (x y : Int) (s : ByteArray) : TW w x y s 0 0 ⟨#[]⟩ (((w.alloc (.cells #[.int .i64 x, .int .i64 y, .string s] 29)).alloc (.cells #[.int .i64 0, .int .i64 0, .string ⟨#[]⟩] 33)).alloc (.cells #[.int .i64 0, .int .i64 0, .string ⟨#[]⟩] 33)) :=
  ⟨⟨by simp [go_sem], by simp [go_sem], by simp [go_sem], by simp; omega⟩, ⟨by simp [go_sem], by simp [go_sem], by simp [go_sem], by simp⟩, ⟨by simp [go_sem], by simp [go_sem], by simp [go_sem], by simp⟩, by simp [go_sem], by simp [go_sem], by simp [go_sem], by simp [go_sem], by simp [go_sem], by simp [go_sem],
    (((Below.refl _ _).alloc (Nat.le_refl _) _).alloc (by simp) _).alloc (by simp; omega) _⟩
set_option maxHeartbeats 1600000 in
theorem toWay_any (x y : Int) (s : ByteArray) (w : World) : Calls Try.prog 25 #[wayV x y s] w (Ret w (wayV x y s)) := by
  have HX := Lib.hid (TW.start w x y s)
  have a0 := HX.out.a.c0
  have a1 := HX.out.a.c1
  go_enter Try.func25, Try.ntmps25
  go_wp2_with fail
  refine (toCell_any x y _).mono ?_
  rintro e w1 ⟨rfl, hb1⟩
  have HX1 := Lib.hid (HX.out.kept hb1)
  clear a0 a1 hb1 HX
  have a2 := HX1.out.a.c2
  have c0 := HX1.out.c.c0
  have c1 := HX1.out.c.c1
  have c2 := HX1.out.c.c2
  have d0 := HX1.out.z.c0
  have d1 := HX1.out.z.c1
  have d2 := HX1.out.z.c2
  have f0 := HX1.out.f0
  have f1 := HX1.out.f1
  have f2 := HX1.out.f2
  have g0 := HX1.out.g0
  have g1 := HX1.out.g1
  have g2 := HX1.out.g2
  go_wp2_with fail
  have hs1 := three_put w1 (w.heap.size + 1 + 1) (.int .i64 x) (.int .i64 y) (.string s) c0 c1 c2
  generalize hX2 : ((w1.setCell ⟨w.heap.size + 1 + 1, 0, none⟩ (.int .i64 x)).setCell ⟨w.heap.size + 1 + 1, 1, none⟩ (.int .i64 y)).setCell ⟨w.heap.size + 1 + 1, 2, none⟩ (.string s) = X2 at *
  have hb2 : Below w.heap.size w X2 := by
    rw [← hX2]
    exact ((HX1.out.below.setCell (p := ⟨w.heap.size + 1 + 1, 0, none⟩) (by show w.heap.size ≤ w.heap.size + 1 + 1; omega) _).setCell (p := ⟨w.heap.size + 1 + 1, 1, none⟩) (by show w.heap.size ≤ w.heap.size + 1 + 1; omega) _).setCell (p := ⟨w.heap.size + 1 + 1, 2, none⟩) (by show w.heap.size ≤ w.heap.size + 1 + 1; omega) _
  have k := fun o => hs1.2.2.2 (w.heap.size + 1) o (by omega)
  have hs2 := three_put X2 (w.heap.size + 1) (.int .i64 x) (.int .i64 y) (.string s) ((k 0).trans d0) ((k 1).trans d1) ((k 2).trans d2)
  have hb3 : Below w.heap.size w (((X2.setCell ⟨w.heap.size + 1, 0, none⟩ (.int .i64 x)).setCell ⟨w.heap.size + 1, 1, none⟩ (.int .i64 y)).setCell ⟨w.heap.size + 1, 2, none⟩ (.string s)) :=
    ((hb2.setCell (p := ⟨w.heap.size + 1, 0, none⟩) (by show w.heap.size ≤ w.heap.size + 1; omega) _).setCell (p := ⟨w.heap.size + 1, 1, none⟩) (by show w.heap.size ≤ w.heap.size + 1; omega) _).setCell (p := ⟨w.heap.size + 1, 2, none⟩) (by show w.heap.size ≤ w.heap.size + 1; omega) _
  generalize ((X2.setCell ⟨w.heap.size + 1, 0, none⟩ (.int .i64 x)).setCell ⟨w.heap.size + 1, 1, none⟩ (.int .i64 y)).setCell ⟨w.heap.size + 1, 2, none⟩ (.string s) = WF at *
  obtain ⟨z0, z1, z2, _⟩ := hs2
  refine bodyPost_ret (v := wayV x y s) ?_ rfl ⟨rfl, hb3⟩
  simp [results, Try.f25, go_sem, z0, z1, z2]
end Go.Proofs.Ytahnknbggacndaa
