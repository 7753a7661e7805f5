/- The model's DoMeet. -/
import Derived.Test.YtahnknbggacndaaMtS
namespace Go.Proofs.Ytahnknbggacndaa
open Go.RowKit
set_option linter.unusedVariables false
/-- two ways in their boxes -/
structure W2 (w : World) (x y u v : Int) (s t : ByteArray) (X : World) : Prop where
  a : WB w.heap.size x y s X
  b : WB (w.heap.size + 1) u v t X
  below : Below w.heap.size w X
theorem W2.kept {w X X' : World} {x y u v : Int} {s t : ByteArray} (h : W2 w x y u v s t X) (hb : Below X.heap.size X X') : W2 w x y u v s t X' := ⟨h.a.below hb, h.b.below hb, h.below.trans (hb.mono h.below.size)⟩
theorem W2.start (w : World) (x y u v : Int) (s t : ByteArray) : W2 w x y u v s t ((w.alloc (.cells #[.int .i64 x, .int .i64 y, .string s] 33)).alloc (.cells #[.int .i64 u, .int .i64 v, .string t] 33)) :=
  ⟨⟨by simp [go_sem], by simp [go_sem], by simp [go_sem], by simp; omega⟩, ⟨by simp [go_sem], by simp [go_sem], by simp [go_sem], by simp⟩, ((Below.refl _ _).alloc (Nat.le_refl _) _).alloc (by simp) _⟩
def dmOk (x y : Int) (s : ByteArray) (u v : Int) (t : ByteArray) : Bool := wayB x y s && wayB u v t
def dmV (x y : Int) (s : ByteArray) (u v : Int) (t : ByteArray) : Bool := dmOk x y s u v t && (mtR x y s u v t).isSome
set_option maxRecDepth 100000 in
set_option maxHeartbeats 2000000 in
theorem specDoMeet_ret (x y u v : Int) (s t : ByteArray) (w : World) (hs : s.size ≤ maxLen) (ht : t.size ≤ maxLen) :
    Calls Try.prog 42 #[wayV x y s, wayV u v t] w (Ret w (.tuple #[.bool (dmV x y s u v t), .bool (dmOk x y s u v t)])) := by
  have HX := Lib.hid (W2.start w x y u v s t)
  have H1 : Hid (∀ w, Calls Try.prog 24 #[wayV x y s] w (Ret w (.bool (wayB x y s)))) := Lib.hid fun w => specIsWay_ret x y s w hs
  have H2 : Hid (∀ w, Calls Try.prog 24 #[wayV u v t] w (Ret w (.bool (wayB u v t)))) := Lib.hid fun w => specIsWay_ret u v t w ht
  have H3 : Hid (∀ w, Calls Try.prog 87 #[wayV x y s, wayV u v t] w (Ret w (mtV (mtR x y s u v t)))) := Lib.hid fun w => ncMeet_any x y u v s t w hs ht
  have hx := HX.out
  have r0 := hx.a.c0; have r1 := hx.a.c1; have r2 := hx.a.c2; have r3 := hx.b.c0; have r4 := hx.b.c1; have r5 := hx.b.c2
  clear hx
  unfold dmV dmOk
  generalize mtR x y s u v t = R at *
  rcases Bool.eq_false_or_eq_true (wayB x y s) with a1 | a1
  case inr =>
    rw [a1] at H1 ⊢
    clear a1 H2 H3
    go_enter Try.func42, Try.ntmps42
    go_wp2_with fail
    refine (H1.out _).mono ?_
    rintro e w1 ⟨rfl, hb1⟩
    have HX1 := Lib.hid (HX.out.kept hb1)
    clear hb1
    clear r0 r1 r2 r3 r4 r5
    go_wp2_with fail
    go_ret2
    exact ⟨rfl, HX1.out.below⟩
  rcases Bool.eq_false_or_eq_true (wayB u v t) with a2 | a2
  case inr =>
    rw [a1] at H1 ⊢
    rw [a2] at H2 ⊢
    clear a1 a2 H3
    go_enter Try.func42, Try.ntmps42
    go_wp2_with fail
    refine (H1.out _).mono ?_
    rintro e w1 ⟨rfl, hb1⟩
    have hx := HX.out.kept hb1
    clear r0 r1 r2 r3 r4 r5
    have r0 := hx.a.c0; have r1 := hx.a.c1; have r2 := hx.a.c2; have r3 := hx.b.c0; have r4 := hx.b.c1; have r5 := hx.b.c2
    have HX1 := Lib.hid hx
    clear hx hb1
    go_wp2_with fail
    refine (H2.out _).mono ?_
    rintro e w2 ⟨rfl, hb2⟩
    have HX2 := Lib.hid (HX1.out.kept hb2)
    clear hb2
    clear r0 r1 r2 r3 r4 r5
    go_wp2_with fail
    go_ret2
    exact ⟨rfl, HX2.out.below⟩
  rw [a1] at H1 ⊢
  rw [a2] at H2 ⊢
  clear a1 a2
  go_enter Try.func42, Try.ntmps42
  go_wp2_with fail
  refine (H1.out _).mono ?_
  rintro e w1 ⟨rfl, hb1⟩
  have hx := HX.out.kept hb1
  clear r0 r1 r2 r3 r4 r5
  have r0 := hx.a.c0; have r1 := hx.a.c1; have r2 := hx.a.c2; have r3 := hx.b.c0; have r4 := hx.b.c1; have r5 := hx.b.c2
  have HX1 := Lib.hid hx
  clear hx hb1
  go_wp2_with fail
  refine (H2.out _).mono ?_
  rintro e w2 ⟨rfl, hb2⟩
  have hx := HX1.out.kept hb2
  clear r0 r1 r2 r3 r4 r5
  have r0 := hx.a.c0; have r1 := hx.a.c1; have r2 := hx.a.c2; have r3 := hx.b.c0; have r4 := hx.b.c1; have r5 := hx.b.c2
  have HX2 := Lib.hid hx
  clear hx hb2
  go_wp2_with fail
  refine (H3.out _).mono ?_
  rintro e w3 ⟨rfl, hb3⟩
  have HX3 := Lib.hid (HX2.out.kept hb3)
  clear hb3 H1 H2 H3
  clear r0 r1 r2 r3 r4 r5
  rcases R with _ | ⟨i, j⟩
  · unfold mtV
    go_wp2_with fail
    go_ret2
    exact ⟨rfl, HX3.out.below⟩
  · unfold mtV
    go_wp2_with fail
    go_ret2
    exact ⟨rfl, HX3.out.below⟩
end Go.Proofs.Ytahnknbggacndaa
