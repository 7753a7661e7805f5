/- The model's FirstMeetingOf. -/
import Derived.Test.YtahnknbggacndaaDmS
namespace Go.Proofs.Ytahnknbggacndaa
open Go.RowKit
set_option linter.unusedVariables false
/-- two ways in their boxes, and an empty cell behind them -/
structure W3 (w : World) (x y u v : Int) (s t : ByteArray) (X : World) : Prop where
  a : WB w.heap.size x y s X
  b : WB (w.heap.size + 1) u v t X
  z : QB (w.heap.size + 2) 0 0 X
  f0 : X.frozen? ⟨w.heap.size + 2, 0, none⟩ = false
  f1 : X.frozen? ⟨w.heap.size + 2, 1, none⟩ = false
  below : Below w.heap.size w X
theorem W3.kept {w X X' : World} {x y u v : Int} {s t : ByteArray} (h : W3 w x y u v s t X) (hb : Below X.heap.size X X') : W3 w x y u v s t X' :=
  ⟨h.a.below hb, h.b.below hb, h.z.below hb, (hb.frozen (p := ⟨w.heap.size + 2, 0, none⟩) h.z.lt).trans h.f0, (hb.frozen (p := ⟨w.heap.size + 2, 1, none⟩) h.z.lt).trans h.f1, h.below.trans (hb.mono h.below.size)⟩
theorem W3.start (w : World) (x y u v : Int) (s t : ByteArray) : W3 w x y u v s t (((w.alloc (.cells #[.int .i64 x, .int .i64 y, .string s] 33)).alloc (.cells #[.int .i64 u, .int .i64 v, .string t] 33)).alloc (.cells #[.int .i64 0, .int .i64 0] 25)) :=
  ⟨⟨by simp [go_sem], by simp [go_sem], by simp [go_sem], by simp; omega⟩, ⟨by simp [go_sem], by simp [go_sem], by simp [go_sem], by simp⟩, ⟨by simp [go_sem], by simp [go_sem], by simp⟩, by simp [go_sem], by simp [go_sem], (((Below.refl _ _).alloc (Nat.le_refl _) _).alloc (by simp) _).alloc (by simp; omega) _⟩
theorem W3.done {w X : World} {x y u v : Int} {s t : ByteArray} (h : W3 w x y u v s t X) (p q : Int) :
    ((X.setCell ⟨w.heap.size + 1 + 1, 0, none⟩ (.int .i64 p)).setCell ⟨w.heap.size + 1 + 1, 1, none⟩ (.int .i64 q)).cell? ⟨w.heap.size + 1 + 1, 0, none⟩ = some (.int .i64 p) ∧ ((X.setCell ⟨w.heap.size + 1 + 1, 0, none⟩ (.int .i64 p)).setCell ⟨w.heap.size + 1 + 1, 1, none⟩ (.int .i64 q)).cell? ⟨w.heap.size + 1 + 1, 1, none⟩ = some (.int .i64 q) ∧
    Below w.heap.size w ((X.setCell ⟨w.heap.size + 1 + 1, 0, none⟩ (.int .i64 p)).setCell ⟨w.heap.size + 1 + 1, 1, none⟩ (.int .i64 q)) :=
  ⟨(World.cell?_setCell_other _ _ _ _ (by simp)).trans (World.cell?_setCell_same' _ _ _ (by rw [h.z.c0]; rfl)), World.cell?_setCell_same' _ _ _ (by rw [World.cell?_setCell_other _ _ _ _ (by simp), h.z.c1]; rfl),
    (h.below.setCell (p := ⟨w.heap.size + 1 + 1, 0, none⟩) (by show w.heap.size ≤ w.heap.size + 1 + 1; omega) _).setCell (p := ⟨w.heap.size + 1 + 1, 1, none⟩) (by show w.heap.size ≤ w.heap.size + 1 + 1; omega) _⟩
theorem mtI_lt {xs ys : List Int} {m : Nat} : ∀ {f i p q : Nat}, mtI xs ys m f i = some (p, q) → i ≤ p ∧ p < i + f
  | 0, i, p, q, h => by simp [mtI] at h
  | f + 1, i, p, q, h => by
    unfold mtI at h
    split at h
    · injection h with h
      injection h with h1 h2
      omega
    · have := mtI_lt h
      omega
def fmX (x y : Int) (s : ByteArray) (u v : Int) (t : ByteArray) : Int × Int := if dmOk x y s u v t = true then (match mtR x y s u v t with
  | some (i, _) => ((ncX x y s).getD (i * 2) 0, (ncX x y s).getD (i * 2 + 1) 0)
  | none => (0, 0)) else (0, 0)
set_option maxRecDepth 100000 in
set_option maxHeartbeats 4000000 in
theorem specFirstMeeting_ret (x y u v : Int) (s t : ByteArray) (w : World) (hs : s.size ≤ maxLen) (ht : t.size ≤ maxLen) :
    Calls Try.prog 44 #[wayV x y s, wayV u v t] w (Ret w (.tuple #[celV (fmX x y s u v t).1 (fmX x y s u v t).2, .bool (dmV x y s u v t)])) := by
  have HX := Lib.hid (W3.start w x y u v s t)
  have H1 : Hid (∀ w, Calls Try.prog 24 #[wayV x y s] w (Ret w (.bool (wayB x y s)))) := Lib.hid fun w => specIsWay_ret x y s w hs
  have H2 : Hid (∀ w, Calls Try.prog 24 #[wayV u v t] w (Ret w (.bool (wayB u v t)))) := Lib.hid fun w => specIsWay_ret u v t w ht
  have H3 : Hid (∀ w, Calls Try.prog 87 #[wayV x y s, wayV u v t] w (Ret w (mtV (mtR x y s u v t)))) := Lib.hid fun w => ncMeet_any x y u v s t w hs ht
  have H4 : Hid (∀ w, Calls Try.prog 79 #[wayV x y s] w (CsRet w (wayB x y s) (ncN x y s) (ncX x y s))) := Lib.hid fun w => ncCells_any x y s w hs
  have hnle := ncN_le x y s
  have hlt : ∀ p q, mtR x y s u v t = some (p, q) → p < ncN x y s := fun p q h => by have := mtI_lt h; omega
  have hx := HX.out
  have r0 := hx.a.c0; have r1 := hx.a.c1; have r2 := hx.a.c2; have r3 := hx.b.c0; have r4 := hx.b.c1; have r5 := hx.b.c2; have r6 := hx.z.c0; have r7 := hx.z.c1; have r8 := hx.f0; have r9 := hx.f1
  clear hx
  unfold fmX dmV dmOk
  generalize mtR x y s u v t = R at *
  generalize ncX x y s = xs at *
  generalize ncN x y s = n at *
  rcases Bool.eq_false_or_eq_true (wayB x y s) with a1 | a1
  case inr =>
    rw [a1] at H1 ⊢
    simp only [Bool.false_and, Bool.false_eq_true, if_false]
    clear a1 H2 H3 H4 hlt
    go_enter Try.func44, Try.ntmps44
    go_wp2_with fail
    refine (H1.out _).mono ?_
    rintro e w1 ⟨rfl, hb1⟩
    have hx := HX.out.kept hb1
    clear r0 r1 r2 r3 r4 r5 r6 r7 r8 r9
    have r0 := hx.a.c0; have r1 := hx.a.c1; have r2 := hx.a.c2; have r3 := hx.b.c0; have r4 := hx.b.c1; have r5 := hx.b.c2; have r6 := hx.z.c0; have r7 := hx.z.c1; have r8 := hx.f0; have r9 := hx.f1
    have HX1 := Lib.hid hx
    clear hx hb1
    go_wp2_with fail
    obtain ⟨z0, z1, hzb⟩ := HX1.out.done 0 0
    refine bodyPost_ret (v := .tuple #[celV 0 0, .bool false]) ?_ rfl ⟨rfl, hzb⟩
    clear hzb
    generalize (w1.setCell ⟨w.heap.size + 1 + 1, 0, none⟩ (.int .i64 0)).setCell ⟨w.heap.size + 1 + 1, 1, none⟩ (.int .i64 0) = WF at *
    simp [results, Try.f44, go_sem, z0, z1]
  rcases Bool.eq_false_or_eq_true (wayB u v t) with a2 | a2
  case inr =>
    rw [a1] at H1 ⊢
    rw [a2] at H2 ⊢
    simp only [Bool.false_and, Bool.and_false, Bool.false_eq_true, if_false]
    clear a1 a2 H3 H4 hlt
    go_enter Try.func44, Try.ntmps44
    go_wp2_with fail
    refine (H1.out _).mono ?_
    rintro e w1 ⟨rfl, hb1⟩
    have hx := HX.out.kept hb1
    clear r0 r1 r2 r3 r4 r5 r6 r7 r8 r9
    have r0 := hx.a.c0; have r1 := hx.a.c1; have r2 := hx.a.c2; have r3 := hx.b.c0; have r4 := hx.b.c1; have r5 := hx.b.c2; have r6 := hx.z.c0; have r7 := hx.z.c1; have r8 := hx.f0; have r9 := hx.f1
    have HX1 := Lib.hid hx
    clear hx hb1
    go_wp2_with fail
    refine (H2.out _).mono ?_
    rintro e w2 ⟨rfl, hb2⟩
    have hx := HX1.out.kept hb2
    clear r0 r1 r2 r3 r4 r5 r6 r7 r8 r9
    have r0 := hx.a.c0; have r1 := hx.a.c1; have r2 := hx.a.c2; have r3 := hx.b.c0; have r4 := hx.b.c1; have r5 := hx.b.c2; have r6 := hx.z.c0; have r7 := hx.z.c1; have r8 := hx.f0; have r9 := hx.f1
    have HX2 := Lib.hid hx
    clear hx hb2
    go_wp2_with fail
    obtain ⟨z0, z1, hzb⟩ := HX2.out.done 0 0
    refine bodyPost_ret (v := .tuple #[celV 0 0, .bool false]) ?_ rfl ⟨rfl, hzb⟩
    clear hzb
    generalize (w2.setCell ⟨w.heap.size + 1 + 1, 0, none⟩ (.int .i64 0)).setCell ⟨w.heap.size + 1 + 1, 1, none⟩ (.int .i64 0) = WF at *
    simp [results, Try.f44, go_sem, z0, z1]
  rw [a1] at H1 H4 ⊢
  rw [a2] at H2 ⊢
  clear a1 a2
  rcases R with _ | ⟨i, j⟩
  case none =>
    simp only [Option.isSome_none, Bool.and_false, if_true, Bool.and_true]
    unfold mtV at H3
    clear H4 hlt
    go_enter Try.func44, Try.ntmps44
    go_wp2_with fail
    refine (H1.out _).mono ?_
    rintro e w1 ⟨rfl, hb1⟩
    have hx := HX.out.kept hb1
    clear r0 r1 r2 r3 r4 r5 r6 r7 r8 r9
    have r0 := hx.a.c0; have r1 := hx.a.c1; have r2 := hx.a.c2; have r3 := hx.b.c0; have r4 := hx.b.c1; have r5 := hx.b.c2; have r6 := hx.z.c0; have r7 := hx.z.c1; have r8 := hx.f0; have r9 := hx.f1
    have HX1 := Lib.hid hx
    clear hx hb1
    go_wp2_with fail
    refine (H2.out _).mono ?_
    rintro e w2 ⟨rfl, hb2⟩
    have hx := HX1.out.kept hb2
    clear r0 r1 r2 r3 r4 r5 r6 r7 r8 r9
    have r0 := hx.a.c0; have r1 := hx.a.c1; have r2 := hx.a.c2; have r3 := hx.b.c0; have r4 := hx.b.c1; have r5 := hx.b.c2; have r6 := hx.z.c0; have r7 := hx.z.c1; have r8 := hx.f0; have r9 := hx.f1
    have HX2 := Lib.hid hx
    clear hx hb2
    go_wp2_with fail
    refine (H3.out _).mono ?_
    rintro e w3 ⟨rfl, hb3⟩
    have hx := HX2.out.kept hb3
    clear r0 r1 r2 r3 r4 r5 r6 r7 r8 r9
    have r0 := hx.a.c0; have r1 := hx.a.c1; have r2 := hx.a.c2; have r3 := hx.b.c0; have r4 := hx.b.c1; have r5 := hx.b.c2; have r6 := hx.z.c0; have r7 := hx.z.c1; have r8 := hx.f0; have r9 := hx.f1
    have HX3 := Lib.hid hx
    clear hx hb3
    go_wp2_with fail
    obtain ⟨z0, z1, hzb⟩ := HX3.out.done 0 0
    refine bodyPost_ret (v := .tuple #[celV 0 0, .bool false]) ?_ rfl ⟨rfl, hzb⟩
    clear hzb
    generalize (w3.setCell ⟨w.heap.size + 1 + 1, 0, none⟩ (.int .i64 0)).setCell ⟨w.heap.size + 1 + 1, 1, none⟩ (.int .i64 0) = WF at *
    simp [results, Try.f44, go_sem, z0, z1]
  case some =>
    simp only [Option.isSome_some, Bool.and_true, if_true]
    unfold mtV at H3
    have hi := hlt i j rfl
    have i1 : (i : Int) < (n : Int) := by omega
    have i0 : 0 ≤ (i : Int) := by omega
    clear hlt
    go_enter Try.func44, Try.ntmps44
    go_wp2_with fail
    refine (H1.out _).mono ?_
    rintro e w1 ⟨rfl, hb1⟩
    have hx := HX.out.kept hb1
    clear r0 r1 r2 r3 r4 r5 r6 r7 r8 r9
    have r0 := hx.a.c0; have r1 := hx.a.c1; have r2 := hx.a.c2; have r3 := hx.b.c0; have r4 := hx.b.c1; have r5 := hx.b.c2; have r6 := hx.z.c0; have r7 := hx.z.c1; have r8 := hx.f0; have r9 := hx.f1
    have HX1 := Lib.hid hx
    clear hx hb1
    go_wp2_with fail
    refine (H2.out _).mono ?_
    rintro e w2 ⟨rfl, hb2⟩
    have hx := HX1.out.kept hb2
    clear r0 r1 r2 r3 r4 r5 r6 r7 r8 r9
    have r0 := hx.a.c0; have r1 := hx.a.c1; have r2 := hx.a.c2; have r3 := hx.b.c0; have r4 := hx.b.c1; have r5 := hx.b.c2; have r6 := hx.z.c0; have r7 := hx.z.c1; have r8 := hx.f0; have r9 := hx.f1
    have HX2 := Lib.hid hx
    clear hx hb2
    go_wp2_with fail
    refine (H3.out _).mono ?_
    rintro e w3 ⟨rfl, hb3⟩
    have hx := HX2.out.kept hb3
    clear r0 r1 r2 r3 r4 r5 r6 r7 r8 r9
    have r0 := hx.a.c0; have r1 := hx.a.c1; have r2 := hx.a.c2; have r3 := hx.b.c0; have r4 := hx.b.c1; have r5 := hx.b.c2; have r6 := hx.z.c0; have r7 := hx.z.c1; have r8 := hx.f0; have r9 := hx.f1
    have HX3 := Lib.hid hx
    clear hx hb3
    go_wp2_with fail
    refine (H4.out _).mono ?_
    rintro e w4 ⟨v1, rfl, hr1, hb4⟩
    have hx := HX3.out.kept hb4
    clear r0 r1 r2 r3 r4 r5 r6 r7 r8 r9
    have r0 := hx.a.c0; have r1 := hx.a.c1; have r2 := hx.a.c2; have r3 := hx.b.c0; have r4 := hx.b.c1; have r5 := hx.b.c2; have r6 := hx.z.c0; have r7 := hx.z.c1; have r8 := hx.f0; have r9 := hx.f1
    have HX4 := Lib.hid hx
    obtain ⟨g1, c1, rfl, _, _⟩ := hr1.form (by omega)
    have l0 := hr1.cell (j := i * 2) (by omega)
    have l1 := hr1.cell (j := i * 2 + 1) (by omega)
    generalize xs.getD (i * 2) 0 = p at *
    generalize xs.getD (i * 2 + 1) 0 = q at *
    clear hx hb4 hr1 H1 H2 H3 H4
    go_wp2_with fail
    obtain ⟨z0, z1, hzb⟩ := HX4.out.done p q
    refine bodyPost_ret (v := .tuple #[celV p q, .bool true]) ?_ rfl ⟨rfl, hzb⟩
    clear hzb
    generalize (w4.setCell ⟨w.heap.size + 1 + 1, 0, none⟩ (.int .i64 p)).setCell ⟨w.heap.size + 1 + 1, 1, none⟩ (.int .i64 q) = WF at *
    simp [results, Try.f44, go_sem, z0, z1]
end Go.Proofs.Ytahnknbggacndaa
