/- The model's SwapTails. -/
import Derived.Test.YtahnknbggacndaaDmS
import Derived.Test.YtahnknbggacndaaStoR
namespace Go.Proofs.Ytahnknbggacndaa
open Go.RowKit
set_option linter.unusedVariables false
/-- two ways in their boxes, and two empty ones behind them -/
structure W4 (w : World) (x y u v : Int) (s t : ByteArray) (X : World) : Prop where
  a : WB w.heap.size x y s X
  b : WB (w.heap.size + 1) u v t X
  z : CellsAt X (w.heap.size + 1 + 1) [.int .i64 0, .int .i64 0, .string ⟨#[]⟩]
  z2 : CellsAt X (w.heap.size + 1 + 1 + 1) [.int .i64 0, .int .i64 0, .string ⟨#[]⟩]
  lt : w.heap.size + 1 + 1 + 1 < X.heap.size
  below : Below w.heap.size w X
theorem W4.kept {w X X' : World} {x y u v : Int} {s t : ByteArray} (h : W4 w x y u v s t X) (hb : Below X.heap.size X X') : W4 w x y u v s t X' :=
  ⟨h.a.below hb, h.b.below hb, RG.CellsAt.kept h.z (by have := h.lt; omega) hb, RG.CellsAt.kept h.z2 h.lt hb, Nat.lt_of_lt_of_le h.lt hb.size, h.below.trans (hb.mono h.below.size)⟩
theorem W4.start (w : World) (x y u v : Int) (s t : ByteArray) : W4 w x y u v s t ((((w.alloc (.cells #[.int .i64 x, .int .i64 y, .string s] 33)).alloc (.cells #[.int .i64 u, .int .i64 v, .string t] 33)).alloc (.cells #[.int .i64 0, .int .i64 0, .string ⟨#[]⟩] 33)).alloc (.cells #[.int .i64 0, .int .i64 0, .string ⟨#[]⟩] 33)) := by
  refine ⟨⟨by simp [go_sem], by simp [go_sem], by simp [go_sem], by simp <;> omega⟩, ⟨by simp [go_sem], by simp [go_sem], by simp [go_sem], by simp <;> omega⟩, ?_, ?_, by simp, ((((Below.refl _ _).alloc (Nat.le_refl _) _).alloc (by simp) _).alloc (by simp <;> omega) _).alloc (by simp <;> omega) _⟩
  · intro i v hi
    match i, hi with
    | 0, hi => simp at hi; subst hi; exact ⟨by simp [go_sem], by simp [go_sem]⟩
    | 1, hi => simp at hi; subst hi; exact ⟨by simp [go_sem], by simp [go_sem]⟩
    | 2, hi => simp at hi; subst hi; exact ⟨by simp [go_sem], by simp [go_sem]⟩
    | i + 3, hi => simp at hi
  · intro i v hi
    match i, hi with
    | 0, hi => simp at hi; subst hi; exact ⟨by simp [go_sem], by simp [go_sem]⟩
    | 1, hi => simp at hi; subst hi; exact ⟨by simp [go_sem], by simp [go_sem]⟩
    | 2, hi => simp at hi; subst hi; exact ⟨by simp [go_sem], by simp [go_sem]⟩
    | i + 3, hi => simp at hi
theorem W4.done {w X : World} {x y u v : Int} {s t : ByteArray} (h : W4 w x y u v s t X) (p q p' q' : Int) (r r' : ByteArray) (Y : World) (hY : Y = RG.setN (RG.setN X (w.heap.size + 1 + 1) 0 [.int .i64 p, .int .i64 q, .string r]) (w.heap.size + 1 + 1 + 1) 0 [.int .i64 p', .int .i64 q', .string r']) :
    Y.cell? ⟨w.heap.size + 1 + 1, 0, none⟩ = some (.int .i64 p) ∧ Y.cell? ⟨w.heap.size + 1 + 1, 1, none⟩ = some (.int .i64 q) ∧ Y.cell? ⟨w.heap.size + 1 + 1, 2, none⟩ = some (.string r) ∧
    Y.cell? ⟨w.heap.size + 1 + 1 + 1, 0, none⟩ = some (.int .i64 p') ∧ Y.cell? ⟨w.heap.size + 1 + 1 + 1, 1, none⟩ = some (.int .i64 q') ∧ Y.cell? ⟨w.heap.size + 1 + 1 + 1, 2, none⟩ = some (.string r') ∧ Below w.heap.size w Y := by
  subst hY
  have a : ∀ k z (c : Value), ([Value.int .i64 p, .int .i64 q, .string r])[k]? = some c → ([Value.int .i64 0, .int .i64 0, .string ⟨#[]⟩])[k]? = some z → (RG.setN (RG.setN X (w.heap.size + 1 + 1) 0 [.int .i64 p, .int .i64 q, .string r]) (w.heap.size + 1 + 1 + 1) 0 [.int .i64 p', .int .i64 q', .string r']).cell? ⟨w.heap.size + 1 + 1, k, none⟩ = some c := fun k z c hc hz => by
    rw [RG.setN_before _ _ _ _ _ _ (.inl (by omega))]
    have := RG.setN_at (w.heap.size + 1 + 1) _ 0 X k c hc ⟨z, by rw [Nat.zero_add]; exact (h.z k z hz).1⟩
    rwa [Nat.zero_add] at this
  have b : ∀ k z (c : Value), ([Value.int .i64 p', .int .i64 q', .string r'])[k]? = some c → ([Value.int .i64 0, .int .i64 0, .string ⟨#[]⟩])[k]? = some z → (RG.setN (RG.setN X (w.heap.size + 1 + 1) 0 [.int .i64 p, .int .i64 q, .string r]) (w.heap.size + 1 + 1 + 1) 0 [.int .i64 p', .int .i64 q', .string r']).cell? ⟨w.heap.size + 1 + 1 + 1, k, none⟩ = some c := fun k z c hc hz => by
    have := RG.setN_at (w.heap.size + 1 + 1 + 1) _ 0 (RG.setN X (w.heap.size + 1 + 1) 0 [.int .i64 p, .int .i64 q, .string r]) k c hc ⟨z, by rw [Nat.zero_add, RG.setN_before _ _ _ _ _ _ (.inl (by omega))]; exact (h.z2 k z hz).1⟩
    rwa [Nat.zero_add] at this
  exact ⟨a 0 _ _ rfl rfl, a 1 _ _ rfl rfl, a 2 _ _ rfl rfl, b 0 _ _ rfl rfl, b 1 _ _ rfl rfl, b 2 _ _ rfl rfl, RG.setN_below (by omega) _ _ _ _ (RG.setN_below (by omega) _ _ _ _ h.below)⟩
theorem cells3 {X : World} {b : Nat} {p q r : Value} (h0 : X.cell? ⟨b, 0, none⟩ = some p) (h1 : X.cell? ⟨b, 1, none⟩ = some q) (h2 : X.cell? ⟨b, 2, none⟩ = some r) : ∀ i v, ([p, q, r])[i]? = some v → X.cell? ⟨b, i, none⟩ = some v := by
  intro i v hi
  match i, hi with
  | 0, hi => simp at hi; subst hi; exact h0
  | 1, hi => simp at hi; subst hi; exact h1
  | 2, hi => simp at hi; subst hi; exact h2
  | i + 3, hi => simp at hi
/-- the ways with their tails exchanged -/
def stB (x y : Int) (s : ByteArray) (u v : Int) (t : ByteArray) : Bool := dmV x y s u v t
def stR (x y : Int) (s : ByteArray) (u v : Int) (t : ByteArray) : (Int × Int × ByteArray) × (Int × Int × ByteArray) := if dmOk x y s u v t = true then (match mtR x y s u v t with
  | some (i, j) => ((x, y, s.extract 0 i ++ t.extract j t.size), (u, v, t.extract 0 j ++ s.extract i s.size))
  | none => ((0, 0, ⟨#[]⟩), (0, 0, ⟨#[]⟩))) else ((0, 0, ⟨#[]⟩), (0, 0, ⟨#[]⟩))
abbrev wyV (t : Int × Int × ByteArray) : Value := .agg #[.int .i64 t.1, .int .i64 t.2.1, .string t.2.2]
def e_st6 (w : World) (x y u v : Int) (s t : ByteArray) (i j : Nat) : Nat → Value
  | 0 => .pointer (some ⟨w.heap.size, 0, none⟩)
  | 1 => .agg #[.int .i64 x, .int .i64 y]
  | 2 => .pointer (some ⟨w.heap.size, 2, none⟩)
  | 3 => .string s
  | 4 => .int .i64 (i : Int)
  | 5 => .string (s.extract 0 i)
  | 6 => .pointer (some ⟨w.heap.size + 1, 2, none⟩)
  | 7 => .string t
  | 8 => .int .i64 (j : Int)
  | 9 => .string (t.extract j t.size)
  | 10 => .string ((s.extract 0 i) ++ (t.extract j t.size))
  | 11 => .agg #[.int .i64 x, .int .i64 y, .string ((s.extract 0 i) ++ (t.extract j t.size))]
  | _ => undef
def v_st6 (j : Nat) : Bool := ([true, true, true, true, true, true, true, true, true, true, true, true, false, false] : List Bool).getD j false
def t0_st6 (w : World) (x y u v : Int) (s t : ByteArray) (i j : Nat) : BoxG := ⟨12, 13, false, fun b => .pointer (some ⟨b, 0, none⟩), 33, [.int .i64 0, .int .i64 0, .string ⟨#[]⟩], [.int .i64 x, .int .i64 y, .string ((s.extract 0 i) ++ (t.extract j t.size))]⟩
def b_st6 (w : World) (x y u v : Int) (s t : ByteArray) (i j : Nat) : List BoxG := [t0_st6 w x y u v s t i j]
theorem m0_st6 (w : World) (x y u v : Int) (s t : ByteArray) (i j : Nat) : t0_st6 w x y u v s t i j ∈ b_st6 w x y u v s t i j := by simp [b_st6]
theorem ok_st6 (w : World) (x y u v : Int) (s t : ByteArray) (i j : Nat) : OkG v_st6 (b_st6 w x y u v s t i j) := by
  refine ⟨?_, ?_, ?_, ?_, ?_, ?_⟩ <;> simp [b_st6, v_st6, t0_st6]
def e_st7 (w : World) (x y u v : Int) (s t : ByteArray) (i j : Nat) : Nat → Value
  | 0 => .pointer (some ⟨w.heap.size + 1, 0, none⟩)
  | 1 => .agg #[.int .i64 u, .int .i64 v]
  | 2 => .pointer (some ⟨w.heap.size + 1, 2, none⟩)
  | 3 => .string t
  | 4 => .int .i64 (j : Int)
  | 5 => .string (t.extract 0 j)
  | 6 => .pointer (some ⟨w.heap.size, 2, none⟩)
  | 7 => .string s
  | 8 => .int .i64 (i : Int)
  | 9 => .string (s.extract i s.size)
  | 10 => .string ((t.extract 0 j) ++ (s.extract i s.size))
  | 11 => .agg #[.int .i64 u, .int .i64 v, .string ((t.extract 0 j) ++ (s.extract i s.size))]
  | _ => undef
def v_st7 (j : Nat) : Bool := ([true, true, true, true, true, true, true, true, true, true, true, true, false, false] : List Bool).getD j false
def t0_st7 (w : World) (x y u v : Int) (s t : ByteArray) (i j : Nat) : BoxG := ⟨12, 13, false, fun b => .pointer (some ⟨b, 0, none⟩), 33, [.int .i64 0, .int .i64 0, .string ⟨#[]⟩], [.int .i64 u, .int .i64 v, .string ((t.extract 0 j) ++ (s.extract i s.size))]⟩
def b_st7 (w : World) (x y u v : Int) (s t : ByteArray) (i j : Nat) : List BoxG := [t0_st7 w x y u v s t i j]
theorem m0_st7 (w : World) (x y u v : Int) (s t : ByteArray) (i j : Nat) : t0_st7 w x y u v s t i j ∈ b_st7 w x y u v s t i j := by simp [b_st7]
theorem ok_st7 (w : World) (x y u v : Int) (s t : ByteArray) (i j : Nat) : OkG v_st7 (b_st7 w x y u v s t i j) := by
  refine ⟨?_, ?_, ?_, ?_, ?_, ?_⟩ <;> simp [b_st7, v_st7, t0_st7]
theorem mtR_ofS {x y u v : Int} {s t : ByteArray} {i j : Nat} (h : mtR x y s u v t = some (i, j)) : i ≤ s.size ∧ j ≤ t.size := by
  have gi : ∀ (xs ys : List Int) (m f i p q : Nat), mtI xs ys m f i = some (p, q) → p < i + f ∧ q < m := by
    intro xs ys m f
    induction f with
    | zero => intro i p q h; cases h
    | succ f ih =>
      intro i p q h
      unfold mtI at h
      split at h
      · next j' hj' =>
        injection h with h
        injection h with h1 h2
        subst h1 h2
        refine ⟨by omega, ?_⟩
        have gj : ∀ f j k, mtJ xs ys i f j = some k → k < j + f := by
          intro f
          induction f with
          | zero => intro j k h; cases h
          | succ f ih =>
            intro j k h
            unfold mtJ at h
            split at h
            · injection h with h
              omega
            · have := ih _ _ h
              omega
        have := gj _ _ _ hj'
        omega
      · have := ih _ _ _ h
        omega
  have := gi _ _ _ _ _ _ _ h
  have key : ∀ (a b : Int) (r : ByteArray) (k : Nat), k < ncN a b r → k ≤ r.size := fun a b r k hk => by
    unfold ncN at hk
    split at hk
    · omega
    · omega
  exact ⟨key x y s i (by omega), key u v t j this.2⟩
set_option maxRecDepth 100000 in
set_option maxHeartbeats 8000000 in
theorem specSwap_ret (x y u v : Int) (s t : ByteArray) (w : World) (hs : s.size ≤ maxLen) (ht : t.size ≤ maxLen) :
    Calls Try.prog 46 #[wayV x y s, wayV u v t] w (Ret w (.tuple #[wyV (stR x y s u v t).1, wyV (stR x y s u v t).2, .bool (dmV x y s u v t)])) := by
  have HX := Lib.hid (W4.start w x y u v s t)
  have H1 : Hid (∀ w, Calls Try.prog 24 #[wayV x y s] w (Ret w (.bool (wayB x y s)))) := Lib.hid fun w => specIsWay_ret x y s w hs
  have H2 : Hid (∀ w, Calls Try.prog 24 #[wayV u v t] w (Ret w (.bool (wayB u v t)))) := Lib.hid fun w => specIsWay_ret u v t w ht
  have H3 : Hid (∀ w, Calls Try.prog 87 #[wayV x y s, wayV u v t] w (Ret w (mtV (mtR x y s u v t)))) := Lib.hid fun w => ncMeet_any x y u v s t w hs ht
  have hmt := fun i j (h : mtR x y s u v t = some (i, j)) => mtR_ofS h
  have hx := HX.out
  have r0 := hx.a.c0; have r1 := hx.a.c1; have r2 := hx.a.c2; have r3 := hx.b.c0; have r4 := hx.b.c1; have r5 := hx.b.c2; have y0 := hx.z 0 _ rfl; have y1 := hx.z 1 _ rfl; have y2 := hx.z 2 _ rfl; have y3 := hx.z2 0 _ rfl; have y4 := hx.z2 1 _ rfl; have y5 := hx.z2 2 _ rfl; have z0 := y0.1; have z1 := y1.1; have z2 := y2.1; have z3 := y3.1; have z4 := y4.1; have z5 := y5.1; have f0 := y0.2; have f1 := y1.2; have f2 := y2.2; have f3 := y3.2; have f4 := y4.2; have f5 := y5.2; clear y0 y1 y2 y3 y4 y5
  clear hx
  unfold stR dmV dmOk
  generalize mtR x y s u v t = R at *
  rcases Bool.eq_false_or_eq_true (wayB x y s) with a1 | a1
  case inr =>
    rw [a1] at H1 ⊢
    simp only [Bool.false_and, Bool.false_eq_true, if_false]
    clear a1 H2 H3 hmt
    go_enter Try.func46, Try.ntmps46
    go_wp2_with fail
    refine (H1.out _).mono ?_
    rintro e w1 ⟨rfl, hb1⟩
    have hx := HX.out.kept hb1
    clear r0 r1 r2 r3 r4 r5 z0 z1 z2 z3 z4 z5 f0 f1 f2 f3 f4 f5
    have r0 := hx.a.c0; have r1 := hx.a.c1; have r2 := hx.a.c2; have r3 := hx.b.c0; have r4 := hx.b.c1; have r5 := hx.b.c2; have y0 := hx.z 0 _ rfl; have y1 := hx.z 1 _ rfl; have y2 := hx.z 2 _ rfl; have y3 := hx.z2 0 _ rfl; have y4 := hx.z2 1 _ rfl; have y5 := hx.z2 2 _ rfl; have z0 := y0.1; have z1 := y1.1; have z2 := y2.1; have z3 := y3.1; have z4 := y4.1; have z5 := y5.1; have f0 := y0.2; have f1 := y1.2; have f2 := y2.2; have f3 := y3.2; have f4 := y4.2; have f5 := y5.2; clear y0 y1 y2 y3 y4 y5
    have HX1 := Lib.hid hx
    clear hx hb1
    go_wp2_with fail
    obtain ⟨a0, a1, a2, a3, a4, a5, hzb⟩ := HX1.out.done (0) (0) (0) (0) (⟨#[]⟩) (⟨#[]⟩) _ rfl
    simp only [RG.setN, Nat.zero_add] at a0 a1 a2 a3 a4 a5 hzb
    refine bodyPost_ret (v := .tuple #[wyV (0, 0, ⟨#[]⟩), wyV (0, 0, ⟨#[]⟩), .bool false]) ?_ rfl ⟨rfl, hzb⟩
    simp [results, Try.f46, go_sem, a0, a1, a2, a3, a4, a5]
  rcases Bool.eq_false_or_eq_true (wayB u v t) with a2 | a2
  case inr =>
    rw [a1] at H1 ⊢
    rw [a2] at H2 ⊢
    simp only [Bool.false_and, Bool.and_false, Bool.false_eq_true, if_false]
    clear a1 a2 H3 hmt
    go_enter Try.func46, Try.ntmps46
    go_wp2_with fail
    refine (H1.out _).mono ?_
    rintro e w1 ⟨rfl, hb1⟩
    have hx := HX.out.kept hb1
    clear r0 r1 r2 r3 r4 r5 z0 z1 z2 z3 z4 z5 f0 f1 f2 f3 f4 f5
    have r0 := hx.a.c0; have r1 := hx.a.c1; have r2 := hx.a.c2; have r3 := hx.b.c0; have r4 := hx.b.c1; have r5 := hx.b.c2; have y0 := hx.z 0 _ rfl; have y1 := hx.z 1 _ rfl; have y2 := hx.z 2 _ rfl; have y3 := hx.z2 0 _ rfl; have y4 := hx.z2 1 _ rfl; have y5 := hx.z2 2 _ rfl; have z0 := y0.1; have z1 := y1.1; have z2 := y2.1; have z3 := y3.1; have z4 := y4.1; have z5 := y5.1; have f0 := y0.2; have f1 := y1.2; have f2 := y2.2; have f3 := y3.2; have f4 := y4.2; have f5 := y5.2; clear y0 y1 y2 y3 y4 y5
    have HX1 := Lib.hid hx
    clear hx hb1
    go_wp2_with fail
    refine (H2.out _).mono ?_
    rintro e w2 ⟨rfl, hb2⟩
    have hx := HX1.out.kept hb2
    clear r0 r1 r2 r3 r4 r5 z0 z1 z2 z3 z4 z5 f0 f1 f2 f3 f4 f5
    have r0 := hx.a.c0; have r1 := hx.a.c1; have r2 := hx.a.c2; have r3 := hx.b.c0; have r4 := hx.b.c1; have r5 := hx.b.c2; have y0 := hx.z 0 _ rfl; have y1 := hx.z 1 _ rfl; have y2 := hx.z 2 _ rfl; have y3 := hx.z2 0 _ rfl; have y4 := hx.z2 1 _ rfl; have y5 := hx.z2 2 _ rfl; have z0 := y0.1; have z1 := y1.1; have z2 := y2.1; have z3 := y3.1; have z4 := y4.1; have z5 := y5.1; have f0 := y0.2; have f1 := y1.2; have f2 := y2.2; have f3 := y3.2; have f4 := y4.2; have f5 := y5.2; clear y0 y1 y2 y3 y4 y5
    have HX2 := Lib.hid hx
    clear hx hb2
    go_wp2_with fail
    obtain ⟨a0, a1, a2, a3, a4, a5, hzb⟩ := HX2.out.done (0) (0) (0) (0) (⟨#[]⟩) (⟨#[]⟩) _ rfl
    simp only [RG.setN, Nat.zero_add] at a0 a1 a2 a3 a4 a5 hzb
    refine bodyPost_ret (v := .tuple #[wyV (0, 0, ⟨#[]⟩), wyV (0, 0, ⟨#[]⟩), .bool false]) ?_ rfl ⟨rfl, hzb⟩
    simp [results, Try.f46, go_sem, a0, a1, a2, a3, a4, a5]
  have h24 : s.size ≤ 24 ∧ t.size ≤ 24 := ⟨(wayB_of a1).2.1, (wayB_of a2).2.1⟩
  rw [a1] at H1 ⊢
  rw [a2] at H2 ⊢
  clear a1 a2
  rcases R with _ | ⟨i, j⟩
  case none =>
    simp only [Option.isSome_none, Bool.and_false, if_true, Bool.and_true]
    unfold mtV at H3
    clear hmt h24
    go_enter Try.func46, Try.ntmps46
    go_wp2_with fail
    refine (H1.out _).mono ?_
    rintro e w1 ⟨rfl, hb1⟩
    have hx := HX.out.kept hb1
    clear r0 r1 r2 r3 r4 r5 z0 z1 z2 z3 z4 z5 f0 f1 f2 f3 f4 f5
    have r0 := hx.a.c0; have r1 := hx.a.c1; have r2 := hx.a.c2; have r3 := hx.b.c0; have r4 := hx.b.c1; have r5 := hx.b.c2; have y0 := hx.z 0 _ rfl; have y1 := hx.z 1 _ rfl; have y2 := hx.z 2 _ rfl; have y3 := hx.z2 0 _ rfl; have y4 := hx.z2 1 _ rfl; have y5 := hx.z2 2 _ rfl; have z0 := y0.1; have z1 := y1.1; have z2 := y2.1; have z3 := y3.1; have z4 := y4.1; have z5 := y5.1; have f0 := y0.2; have f1 := y1.2; have f2 := y2.2; have f3 := y3.2; have f4 := y4.2; have f5 := y5.2; clear y0 y1 y2 y3 y4 y5
    have HX1 := Lib.hid hx
    clear hx hb1
    go_wp2_with fail
    refine (H2.out _).mono ?_
    rintro e w2 ⟨rfl, hb2⟩
    have hx := HX1.out.kept hb2
    clear r0 r1 r2 r3 r4 r5 z0 z1 z2 z3 z4 z5 f0 f1 f2 f3 f4 f5
    have r0 := hx.a.c0; have r1 := hx.a.c1; have r2 := hx.a.c2; have r3 := hx.b.c0; have r4 := hx.b.c1; have r5 := hx.b.c2; have y0 := hx.z 0 _ rfl; have y1 := hx.z 1 _ rfl; have y2 := hx.z 2 _ rfl; have y3 := hx.z2 0 _ rfl; have y4 := hx.z2 1 _ rfl; have y5 := hx.z2 2 _ rfl; have z0 := y0.1; have z1 := y1.1; have z2 := y2.1; have z3 := y3.1; have z4 := y4.1; have z5 := y5.1; have f0 := y0.2; have f1 := y1.2; have f2 := y2.2; have f3 := y3.2; have f4 := y4.2; have f5 := y5.2; clear y0 y1 y2 y3 y4 y5
    have HX2 := Lib.hid hx
    clear hx hb2
    go_wp2_with fail
    refine (H3.out _).mono ?_
    rintro e w3 ⟨rfl, hb3⟩
    have hx := HX2.out.kept hb3
    clear r0 r1 r2 r3 r4 r5 z0 z1 z2 z3 z4 z5 f0 f1 f2 f3 f4 f5
    have r0 := hx.a.c0; have r1 := hx.a.c1; have r2 := hx.a.c2; have r3 := hx.b.c0; have r4 := hx.b.c1; have r5 := hx.b.c2; have y0 := hx.z 0 _ rfl; have y1 := hx.z 1 _ rfl; have y2 := hx.z 2 _ rfl; have y3 := hx.z2 0 _ rfl; have y4 := hx.z2 1 _ rfl; have y5 := hx.z2 2 _ rfl; have z0 := y0.1; have z1 := y1.1; have z2 := y2.1; have z3 := y3.1; have z4 := y4.1; have z5 := y5.1; have f0 := y0.2; have f1 := y1.2; have f2 := y2.2; have f3 := y3.2; have f4 := y4.2; have f5 := y5.2; clear y0 y1 y2 y3 y4 y5
    have HX3 := Lib.hid hx
    clear hx hb3
    go_wp2_with fail
    obtain ⟨a0, a1, a2, a3, a4, a5, hzb⟩ := HX3.out.done (0) (0) (0) (0) (⟨#[]⟩) (⟨#[]⟩) _ rfl
    simp only [RG.setN, Nat.zero_add] at a0 a1 a2 a3 a4 a5 hzb
    refine bodyPost_ret (v := .tuple #[wyV (0, 0, ⟨#[]⟩), wyV (0, 0, ⟨#[]⟩), .bool false]) ?_ rfl ⟨rfl, hzb⟩
    simp [results, Try.f46, go_sem, a0, a1, a2, a3, a4, a5]
  case some =>
    simp only [Option.isSome_some, Bool.and_true, if_true]
    unfold mtV at H3
    have hij := hmt i j rfl
    have Ki : Hid (0 ≤ (i : Int) ∧ (i : Int) ≤ (s.size : Int)) := Lib.hid (by omega)
    have Kj : Hid (0 ≤ (j : Int) ∧ (j : Int) ≤ (t.size : Int)) := Lib.hid (by omega)
    have KS : Hid (s.size ≤ 24 ∧ t.size ≤ 24) := Lib.hid h24
    clear hmt hij h24
    go_enter Try.func46, Try.ntmps46
    go_wp2_with fail
    refine (H1.out _).mono ?_
    rintro e w1 ⟨rfl, hb1⟩
    have hx := HX.out.kept hb1
    clear r0 r1 r2 r3 r4 r5 z0 z1 z2 z3 z4 z5 f0 f1 f2 f3 f4 f5
    have r0 := hx.a.c0; have r1 := hx.a.c1; have r2 := hx.a.c2; have r3 := hx.b.c0; have r4 := hx.b.c1; have r5 := hx.b.c2; have y0 := hx.z 0 _ rfl; have y1 := hx.z 1 _ rfl; have y2 := hx.z 2 _ rfl; have y3 := hx.z2 0 _ rfl; have y4 := hx.z2 1 _ rfl; have y5 := hx.z2 2 _ rfl; have z0 := y0.1; have z1 := y1.1; have z2 := y2.1; have z3 := y3.1; have z4 := y4.1; have z5 := y5.1; have f0 := y0.2; have f1 := y1.2; have f2 := y2.2; have f3 := y3.2; have f4 := y4.2; have f5 := y5.2; clear y0 y1 y2 y3 y4 y5
    have HX1 := Lib.hid hx
    clear hx hb1
    go_wp2_with fail
    refine (H2.out _).mono ?_
    rintro e w2 ⟨rfl, hb2⟩
    have hx := HX1.out.kept hb2
    clear r0 r1 r2 r3 r4 r5 z0 z1 z2 z3 z4 z5 f0 f1 f2 f3 f4 f5
    have r0 := hx.a.c0; have r1 := hx.a.c1; have r2 := hx.a.c2; have r3 := hx.b.c0; have r4 := hx.b.c1; have r5 := hx.b.c2; have y0 := hx.z 0 _ rfl; have y1 := hx.z 1 _ rfl; have y2 := hx.z 2 _ rfl; have y3 := hx.z2 0 _ rfl; have y4 := hx.z2 1 _ rfl; have y5 := hx.z2 2 _ rfl; have z0 := y0.1; have z1 := y1.1; have z2 := y2.1; have z3 := y3.1; have z4 := y4.1; have z5 := y5.1; have f0 := y0.2; have f1 := y1.2; have f2 := y2.2; have f3 := y3.2; have f4 := y4.2; have f5 := y5.2; clear y0 y1 y2 y3 y4 y5
    have HX2 := Lib.hid hx
    clear hx hb2
    go_wp2_with fail
    refine (H3.out _).mono ?_
    rintro e wn ⟨rfl, hb3⟩
    have HX3 := Lib.hid (HX2.out.kept hb3)
    clear r0 r1 r2 r3 r4 r5 z0 z1 z2 z3 z4 z5 f0 f1 f2 f3 f4 f5
    clear hb3
    go_wp2_with fail
    have HB : Hid (W4 w x y u v s t wn) := Lib.hid HX3.out
    have HRG0 : ∀ (a : Act) (ww : World), ∃ (uu : Nat → Value) (bb : Nat → Nat), a = (((((((((((((a.put (some 33) (uu 0)).put (some 34) (uu 1)).put (some 35) (uu 2)).put (some 36) (uu 3)).put (some 37) (uu 4)).put (some 38) (uu 5)).put (some 39) (uu 6)).put (some 40) (uu 7)).put (some 41) (uu 8)).put (some 42) (uu 9)).put (some 43) (uu 10)).put (some 44) (uu 11)).put (some 10) (uu 12)) ∧ RG ww (e_st6 w x y u v s t i j) v_st6 (b_st6 w x y u v s t i j) (fun _ => false) ww.drew uu bb := fun a ww => ⟨fun j => a.tmps.getD (([33, 34, 35, 36, 37, 38, 39, 40, 41, 42, 43, 44, 10, 0] : List Nat).getD j 0) undef, fun _ => 0, (by show a = (((((((((((((a.put (some 33) (a.tmps.getD 33 undef)).put (some 34) (a.tmps.getD 34 undef)).put (some 35) (a.tmps.getD 35 undef)).put (some 36) (a.tmps.getD 36 undef)).put (some 37) (a.tmps.getD 37 undef)).put (some 38) (a.tmps.getD 38 undef)).put (some 39) (a.tmps.getD 39 undef)).put (some 40) (a.tmps.getD 40 undef)).put (some 41) (a.tmps.getD 41 undef)).put (some 42) (a.tmps.getD 42 undef)).put (some 43) (a.tmps.getD 43 undef)).put (some 44) (a.tmps.getD 44 undef)).put (some 10) (a.tmps.getD 10 undef)); simp only [put_same]), RG.start _ _⟩
    refine wp_region_inv3 (fun a0 LL a W => ∃ (uu : Nat → Value) (bb : Nat → Nat), a = (((((((((((((a0.put (some 33) (uu 0)).put (some 34) (uu 1)).put (some 35) (uu 2)).put (some 36) (uu 3)).put (some 37) (uu 4)).put (some 38) (uu 5)).put (some 39) (uu 6)).put (some 40) (uu 7)).put (some 41) (uu 8)).put (some 42) (uu 9)).put (some 43) (uu 10)).put (some 44) (uu 11)).put (some 10) (uu 12)) ∧ RG wn (e_st6 w x y u v s t i j) v_st6 (b_st6 w x y u v s t i j) LL W uu bb) (by kernel_rfl) (by kernel_rfl) (HRG0 _ _) ?_ ?_
    · rintro jj op hop LL a' WW ⟨uu, bb, rfl, hF⟩ hL hdep
      clear HRG0
      match jj, hop with
      | 0, hop =>
        simp at hop; subst hop
        refine wpOp_run rfl rfl ?_
        simp only [Act.put, List.setIfInBounds_toArray, List.set_cons_succ, List.set_cons_zero]
        go_simp
        refine ⟨_, ?_, _, hF.setv (ok_st6 w x y u v s t i j) 0 rfl (.pointer (some ⟨w.heap.size, 0, none⟩)) rfl⟩
        simp [upg]
      | 1, hop =>
        simp at hop; subst hop
        refine wpOp_run rfl rfl ?_
        simp only [Act.put, List.setIfInBounds_toArray, List.set_cons_succ, List.set_cons_zero]
        have e0 : uu 0 = .pointer (some ⟨w.heap.size, 0, none⟩) := hF.val 0 rfl (hdep ⟨0, .data⟩ (by simp) rfl)
        simp only [e0]
        have r0 := (hF.below.cell (p := ⟨w.heap.size, 0, none⟩) HB.out.a.lt).trans HB.out.a.c0
        have r1 := (hF.below.cell (p := ⟨w.heap.size, 1, none⟩) HB.out.a.lt).trans HB.out.a.c1
        go_simp
        refine ⟨_, ?_, _, hF.setv (ok_st6 w x y u v s t i j) 1 rfl (.agg #[.int .i64 x, .int .i64 y]) rfl⟩
        simp [upg, e0]
      | 2, hop =>
        simp at hop; subst hop
        refine wpOp_run rfl rfl ?_
        simp only [Act.put, List.setIfInBounds_toArray, List.set_cons_succ, List.set_cons_zero]
        go_simp
        refine ⟨_, ?_, _, hF.setv (ok_st6 w x y u v s t i j) 2 rfl (.pointer (some ⟨w.heap.size, 2, none⟩)) rfl⟩
        simp [upg]
      | 3, hop =>
        simp at hop; subst hop
        refine wpOp_run rfl rfl ?_
        simp only [Act.put, List.setIfInBounds_toArray, List.set_cons_succ, List.set_cons_zero]
        have e2 : uu 2 = .pointer (some ⟨w.heap.size, 2, none⟩) := hF.val 2 rfl (hdep ⟨2, .data⟩ (by simp) rfl)
        simp only [e2]
        have r2 := (hF.below.cell (p := ⟨w.heap.size, 2, none⟩) HB.out.a.lt).trans HB.out.a.c2
        go_simp
        refine ⟨_, ?_, _, hF.setv (ok_st6 w x y u v s t i j) 3 rfl (.string s) rfl⟩
        simp [upg, e2]
      | 4, hop =>
        simp at hop; subst hop
        refine wpOp_run rfl rfl ?_
        simp only [Act.put, List.setIfInBounds_toArray, List.set_cons_succ, List.set_cons_zero]
        go_simp
        refine ⟨_, ?_, _, hF.setv (ok_st6 w x y u v s t i j) 4 rfl (.int .i64 (i : Int)) rfl⟩
        simp [upg]
      | 5, hop =>
        simp at hop; subst hop
        refine wpOp_run rfl rfl ?_
        simp only [Act.put, List.setIfInBounds_toArray, List.set_cons_succ, List.set_cons_zero]
        have e3 : uu 3 = .string s := hF.val 3 rfl (hdep ⟨3, .data⟩ (by simp) rfl)
        have e4 : uu 4 = .int .i64 (i : Int) := hF.val 4 rfl (hdep ⟨4, .data⟩ (by simp) rfl)
        simp only [e3, e4]
        have i1' := Ki.out
        clear i1'
        have k1 := Ki.out.1
        have k2 := Ki.out.2
        go_simp
        refine ⟨_, ?_, _, hF.setv (ok_st6 w x y u v s t i j) 5 rfl (.string (s.extract 0 i)) rfl⟩
        simp [upg, e3, e4]
      | 6, hop =>
        simp at hop; subst hop
        refine wpOp_run rfl rfl ?_
        simp only [Act.put, List.setIfInBounds_toArray, List.set_cons_succ, List.set_cons_zero]
        go_simp
        refine ⟨_, ?_, _, hF.setv (ok_st6 w x y u v s t i j) 6 rfl (.pointer (some ⟨w.heap.size + 1, 2, none⟩)) rfl⟩
        simp [upg]
      | 7, hop =>
        simp at hop; subst hop
        refine wpOp_run rfl rfl ?_
        simp only [Act.put, List.setIfInBounds_toArray, List.set_cons_succ, List.set_cons_zero]
        have e6 : uu 6 = .pointer (some ⟨w.heap.size + 1, 2, none⟩) := hF.val 6 rfl (hdep ⟨6, .data⟩ (by simp) rfl)
        simp only [e6]
        have r2 := (hF.below.cell (p := ⟨w.heap.size + 1, 2, none⟩) HB.out.b.lt).trans HB.out.b.c2
        go_simp
        refine ⟨_, ?_, _, hF.setv (ok_st6 w x y u v s t i j) 7 rfl (.string t) rfl⟩
        simp [upg, e6]
      | 8, hop =>
        simp at hop; subst hop
        refine wpOp_run rfl rfl ?_
        simp only [Act.put, List.setIfInBounds_toArray, List.set_cons_succ, List.set_cons_zero]
        go_simp
        refine ⟨_, ?_, _, hF.setv (ok_st6 w x y u v s t i j) 8 rfl (.int .i64 (j : Int)) rfl⟩
        simp [upg]
      | 9, hop =>
        simp at hop; subst hop
        refine wpOp_run rfl rfl ?_
        simp only [Act.put, List.setIfInBounds_toArray, List.set_cons_succ, List.set_cons_zero]
        have e7 : uu 7 = .string t := hF.val 7 rfl (hdep ⟨7, .data⟩ (by simp) rfl)
        have e8 : uu 8 = .int .i64 (j : Int) := hF.val 8 rfl (hdep ⟨8, .data⟩ (by simp) rfl)
        simp only [e7, e8]
        have k1 := Kj.out.1
        have k2 := Kj.out.2
        go_simp
        refine ⟨_, ?_, _, hF.setv (ok_st6 w x y u v s t i j) 9 rfl (.string (t.extract j t.size)) rfl⟩
        simp [upg, e7, e8]
      | 10, hop =>
        simp at hop; subst hop
        refine wpOp_run rfl rfl ?_
        simp only [Act.put, List.setIfInBounds_toArray, List.set_cons_succ, List.set_cons_zero]
        have e5 : uu 5 = .string (s.extract 0 i) := hF.val 5 rfl (hdep ⟨5, .data⟩ (by simp) rfl)
        have e9 : uu 9 = .string (t.extract j t.size) := hF.val 9 rfl (hdep ⟨9, .data⟩ (by simp) rfl)
        simp only [e5, e9]
        have k1 : ¬ 9223372036854775807 < min i s.size + (t.size - j) := by have := KS.out; omega
        go_simp
        refine ⟨_, ?_, _, hF.setv (ok_st6 w x y u v s t i j) 10 rfl (.string ((s.extract 0 i) ++ (t.extract j t.size))) rfl⟩
        simp [upg, e5, e9]
      | 11, hop =>
        simp at hop; subst hop
        refine wpOp_run rfl rfl ?_
        simp only [Act.put, List.setIfInBounds_toArray, List.set_cons_succ, List.set_cons_zero]
        have e1 : uu 1 = .agg #[.int .i64 x, .int .i64 y] := hF.val 1 rfl (hdep ⟨1, .data⟩ (by simp) rfl)
        have e10 : uu 10 = .string ((s.extract 0 i) ++ (t.extract j t.size)) := hF.val 10 rfl (hdep ⟨10, .data⟩ (by simp) rfl)
        simp only [e1, e10]
        go_simp
        refine ⟨_, ?_, _, hF.setv (ok_st6 w x y u v s t i j) 11 rfl (.agg #[.int .i64 x, .int .i64 y, .string ((s.extract 0 i) ++ (t.extract j t.size))]) rfl⟩
        simp [upg, e1, e10]
      | 12, hop =>
        simp at hop; subst hop
        refine wpOp_run rfl rfl ?_
        simp only [Act.put, List.setIfInBounds_toArray, List.set_cons_succ, List.set_cons_zero]
        have HAL := hF.alloc (ok_st6 w x y u v s t i j) (t0_st6 w x y u v s t i j) (m0_st6 w x y u v s t i j) hL
        simp only [t0_st6] at HAL
        go_simp
        refine ⟨_, ?_, _, HAL⟩
        simp [upg]
      | 13, hop =>
        simp at hop; subst hop
        refine wpOp_run rfl rfl ?_
        simp only [Act.put, List.setIfInBounds_toArray, List.set_cons_succ, List.set_cons_zero]
        have e11 : uu 11 = .agg #[.int .i64 x, .int .i64 y, .string ((s.extract 0 i) ++ (t.extract j t.size))] := hF.val 11 rfl (hdep ⟨11, .data⟩ (by simp) rfl)
        have dp := hdep ⟨12, .data⟩ (by simp) rfl
        obtain ⟨ep, k2, k3, k4, _⟩ := hF.box (t0_st6 w x y u v s t i j) (m0_st6 w x y u v s t i j) dp
        have HST := hF.store (ok_st6 w x y u v s t i j) (t0_st6 w x y u v s t i j) (m0_st6 w x y u v s t i j) rfl dp hL
        simp only [t0_st6, hL, Bool.false_eq_true, and_false, if_false] at k4
        have s0 := k4 0 _ rfl
        have sc0 := s0.1; have sf0 := s0.2; clear s0
        have s1 := k4 1 _ rfl
        have sc1 := s1.1; have sf1 := s1.2; clear s1
        have s2 := k4 2 _ rfl
        have sc2 := s2.1; have sf2 := s2.2; clear s2
        simp only [RG.setN, t0_st6, Nat.zero_add] at HST ep
        simp only [e11, ep]
        clear hF k4 k2 k3 dp
        go_simp
        refine ⟨_, ?_, _, HST⟩
        simp [e11, ep]
      | jj + 14, hop => simp at hop
    · rintro LL a' WW hall ⟨uu, bb, rfl, hF⟩
      clear HRG0
      have e0 : uu 0 = .pointer (some ⟨w.heap.size, 0, none⟩) := hF.val 0 rfl (hall 0 (by simp))
      have e1 : uu 1 = .agg #[.int .i64 x, .int .i64 y] := hF.val 1 rfl (hall 1 (by simp))
      have e2 : uu 2 = .pointer (some ⟨w.heap.size, 2, none⟩) := hF.val 2 rfl (hall 2 (by simp))
      have e3 : uu 3 = .string s := hF.val 3 rfl (hall 3 (by simp))
      have e4 : uu 4 = .int .i64 (i : Int) := hF.val 4 rfl (hall 4 (by simp))
      have e5 : uu 5 = .string (s.extract 0 i) := hF.val 5 rfl (hall 5 (by simp))
      have e6 : uu 6 = .pointer (some ⟨w.heap.size + 1, 2, none⟩) := hF.val 6 rfl (hall 6 (by simp))
      have e7 : uu 7 = .string t := hF.val 7 rfl (hall 7 (by simp))
      have e8 : uu 8 = .int .i64 (j : Int) := hF.val 8 rfl (hall 8 (by simp))
      have e9 : uu 9 = .string (t.extract j t.size) := hF.val 9 rfl (hall 9 (by simp))
      have e10 : uu 10 = .string ((s.extract 0 i) ++ (t.extract j t.size)) := hF.val 10 rfl (hall 10 (by simp))
      have e11 : uu 11 = .agg #[.int .i64 x, .int .i64 y, .string ((s.extract 0 i) ++ (t.extract j t.size))] := hF.val 11 rfl (hall 11 (by simp))
      obtain ⟨ep0, lo0, hi0, q0, _⟩ := hF.box (t0_st6 w x y u v s t i j) (m0_st6 w x y u v s t i j) (hall 12 (by simp))
      simp only [t0_st6, show LL 13 = true from hall 13 (by simp), and_self, if_true] at q0
      simp only [t0_st6] at ep0 lo0 hi0
      have bc00 := (q0 0 _ rfl).1
      have bc01 := (q0 1 _ rfl).1
      have bc02 := (q0 2 _ rfl).1
      clear q0
      have HBL := Lib.hid hF.below
      clear hF hall
      simp only [Act.put, List.setIfInBounds_toArray, List.set_cons_succ, List.set_cons_zero]
      simp only [e0, e1, e2, e3, e4, e5, e6, e7, e8, e9, e10, e11, ep0]
      clear e0 e1 e2 e3 e4 e5 e6 e7 e8 e9 e10 e11 ep0
      generalize bb 12 = b0 at *
      have HB1 := Lib.hid (HB.out.kept HBL.out)
      have HQ1 : Hid (WB b0 x y (s.extract 0 i ++ t.extract j t.size) WW ∧ w.heap.size + 1 + 1 + 1 < b0) := Lib.hid ⟨⟨bc00, bc01, bc02, hi0⟩, Nat.lt_of_lt_of_le HB.out.lt lo0⟩
      clear bc00 bc01 bc02 HBL HB hi0 lo0
      have HB := HB1
      generalize b0 = g1 at *
      go_wp2_with fail
      have HRG0 : ∀ (a : Act) (ww : World), ∃ (uu : Nat → Value) (bb : Nat → Nat), a = (((((((((((((a.put (some 45) (uu 0)).put (some 46) (uu 1)).put (some 47) (uu 2)).put (some 48) (uu 3)).put (some 49) (uu 4)).put (some 50) (uu 5)).put (some 51) (uu 6)).put (some 52) (uu 7)).put (some 53) (uu 8)).put (some 54) (uu 9)).put (some 55) (uu 10)).put (some 56) (uu 11)).put (some 11) (uu 12)) ∧ RG ww (e_st7 w x y u v s t i j) v_st7 (b_st7 w x y u v s t i j) (fun _ => false) ww.drew uu bb := fun a ww => ⟨fun j => a.tmps.getD (([45, 46, 47, 48, 49, 50, 51, 52, 53, 54, 55, 56, 11, 0] : List Nat).getD j 0) undef, fun _ => 0, (by show a = (((((((((((((a.put (some 45) (a.tmps.getD 45 undef)).put (some 46) (a.tmps.getD 46 undef)).put (some 47) (a.tmps.getD 47 undef)).put (some 48) (a.tmps.getD 48 undef)).put (some 49) (a.tmps.getD 49 undef)).put (some 50) (a.tmps.getD 50 undef)).put (some 51) (a.tmps.getD 51 undef)).put (some 52) (a.tmps.getD 52 undef)).put (some 53) (a.tmps.getD 53 undef)).put (some 54) (a.tmps.getD 54 undef)).put (some 55) (a.tmps.getD 55 undef)).put (some 56) (a.tmps.getD 56 undef)).put (some 11) (a.tmps.getD 11 undef)); simp only [put_same]), RG.start _ _⟩
      refine wp_region_inv3 (fun a0 LL a W => ∃ (uu : Nat → Value) (bb : Nat → Nat), a = (((((((((((((a0.put (some 45) (uu 0)).put (some 46) (uu 1)).put (some 47) (uu 2)).put (some 48) (uu 3)).put (some 49) (uu 4)).put (some 50) (uu 5)).put (some 51) (uu 6)).put (some 52) (uu 7)).put (some 53) (uu 8)).put (some 54) (uu 9)).put (some 55) (uu 10)).put (some 56) (uu 11)).put (some 11) (uu 12)) ∧ RG WW (e_st7 w x y u v s t i j) v_st7 (b_st7 w x y u v s t i j) LL W uu bb) (by kernel_rfl) (by kernel_rfl) (HRG0 _ _) ?_ ?_
      · rintro jj op hop LL a' WW ⟨uu, bb, rfl, hF⟩ hL hdep
        clear HRG0
        match jj, hop with
        | 0, hop =>
          simp at hop; subst hop
          refine wpOp_run rfl rfl ?_
          simp only [Act.put, List.setIfInBounds_toArray, List.set_cons_succ, List.set_cons_zero]
          go_simp
          refine ⟨_, ?_, _, hF.setv (ok_st7 w x y u v s t i j) 0 rfl (.pointer (some ⟨w.heap.size + 1, 0, none⟩)) rfl⟩
          simp [upg]
        | 1, hop =>
          simp at hop; subst hop
          refine wpOp_run rfl rfl ?_
          simp only [Act.put, List.setIfInBounds_toArray, List.set_cons_succ, List.set_cons_zero]
          have e0 : uu 0 = .pointer (some ⟨w.heap.size + 1, 0, none⟩) := hF.val 0 rfl (hdep ⟨0, .data⟩ (by simp) rfl)
          simp only [e0]
          have r0 := (hF.below.cell (p := ⟨w.heap.size + 1, 0, none⟩) HB.out.b.lt).trans HB.out.b.c0
          have r1 := (hF.below.cell (p := ⟨w.heap.size + 1, 1, none⟩) HB.out.b.lt).trans HB.out.b.c1
          go_simp
          refine ⟨_, ?_, _, hF.setv (ok_st7 w x y u v s t i j) 1 rfl (.agg #[.int .i64 u, .int .i64 v]) rfl⟩
          simp [upg, e0]
        | 2, hop =>
          simp at hop; subst hop
          refine wpOp_run rfl rfl ?_
          simp only [Act.put, List.setIfInBounds_toArray, List.set_cons_succ, List.set_cons_zero]
          go_simp
          refine ⟨_, ?_, _, hF.setv (ok_st7 w x y u v s t i j) 2 rfl (.pointer (some ⟨w.heap.size + 1, 2, none⟩)) rfl⟩
          simp [upg]
        | 3, hop =>
          simp at hop; subst hop
          refine wpOp_run rfl rfl ?_
          simp only [Act.put, List.setIfInBounds_toArray, List.set_cons_succ, List.set_cons_zero]
          have e2 : uu 2 = .pointer (some ⟨w.heap.size + 1, 2, none⟩) := hF.val 2 rfl (hdep ⟨2, .data⟩ (by simp) rfl)
          simp only [e2]
          have r2 := (hF.below.cell (p := ⟨w.heap.size + 1, 2, none⟩) HB.out.b.lt).trans HB.out.b.c2
          go_simp
          refine ⟨_, ?_, _, hF.setv (ok_st7 w x y u v s t i j) 3 rfl (.string t) rfl⟩
          simp [upg, e2]
        | 4, hop =>
          simp at hop; subst hop
          refine wpOp_run rfl rfl ?_
          simp only [Act.put, List.setIfInBounds_toArray, List.set_cons_succ, List.set_cons_zero]
          go_simp
          refine ⟨_, ?_, _, hF.setv (ok_st7 w x y u v s t i j) 4 rfl (.int .i64 (j : Int)) rfl⟩
          simp [upg]
        | 5, hop =>
          simp at hop; subst hop
          refine wpOp_run rfl rfl ?_
          simp only [Act.put, List.setIfInBounds_toArray, List.set_cons_succ, List.set_cons_zero]
          have e3 : uu 3 = .string t := hF.val 3 rfl (hdep ⟨3, .data⟩ (by simp) rfl)
          have e4 : uu 4 = .int .i64 (j : Int) := hF.val 4 rfl (hdep ⟨4, .data⟩ (by simp) rfl)
          simp only [e3, e4]
          have i1' := Kj.out
          clear i1'
          have k1 := Kj.out.1
          have k2 := Kj.out.2
          go_simp
          refine ⟨_, ?_, _, hF.setv (ok_st7 w x y u v s t i j) 5 rfl (.string (t.extract 0 j)) rfl⟩
          simp [upg, e3, e4]
        | 6, hop =>
          simp at hop; subst hop
          refine wpOp_run rfl rfl ?_
          simp only [Act.put, List.setIfInBounds_toArray, List.set_cons_succ, List.set_cons_zero]
          go_simp
          refine ⟨_, ?_, _, hF.setv (ok_st7 w x y u v s t i j) 6 rfl (.pointer (some ⟨w.heap.size, 2, none⟩)) rfl⟩
          simp [upg]
        | 7, hop =>
          simp at hop; subst hop
          refine wpOp_run rfl rfl ?_
          simp only [Act.put, List.setIfInBounds_toArray, List.set_cons_succ, List.set_cons_zero]
          have e6 : uu 6 = .pointer (some ⟨w.heap.size, 2, none⟩) := hF.val 6 rfl (hdep ⟨6, .data⟩ (by simp) rfl)
          simp only [e6]
          have r2 := (hF.below.cell (p := ⟨w.heap.size, 2, none⟩) HB.out.a.lt).trans HB.out.a.c2
          go_simp
          refine ⟨_, ?_, _, hF.setv (ok_st7 w x y u v s t i j) 7 rfl (.string s) rfl⟩
          simp [upg, e6]
        | 8, hop =>
          simp at hop; subst hop
          refine wpOp_run rfl rfl ?_
          simp only [Act.put, List.setIfInBounds_toArray, List.set_cons_succ, List.set_cons_zero]
          go_simp
          refine ⟨_, ?_, _, hF.setv (ok_st7 w x y u v s t i j) 8 rfl (.int .i64 (i : Int)) rfl⟩
          simp [upg]
        | 9, hop =>
          simp at hop; subst hop
          refine wpOp_run rfl rfl ?_
          simp only [Act.put, List.setIfInBounds_toArray, List.set_cons_succ, List.set_cons_zero]
          have e7 : uu 7 = .string s := hF.val 7 rfl (hdep ⟨7, .data⟩ (by simp) rfl)
          have e8 : uu 8 = .int .i64 (i : Int) := hF.val 8 rfl (hdep ⟨8, .data⟩ (by simp) rfl)
          simp only [e7, e8]
          have k1 := Ki.out.1
          have k2 := Ki.out.2
          go_simp
          refine ⟨_, ?_, _, hF.setv (ok_st7 w x y u v s t i j) 9 rfl (.string (s.extract i s.size)) rfl⟩
          simp [upg, e7, e8]
        | 10, hop =>
          simp at hop; subst hop
          refine wpOp_run rfl rfl ?_
          simp only [Act.put, List.setIfInBounds_toArray, List.set_cons_succ, List.set_cons_zero]
          have e5 : uu 5 = .string (t.extract 0 j) := hF.val 5 rfl (hdep ⟨5, .data⟩ (by simp) rfl)
          have e9 : uu 9 = .string (s.extract i s.size) := hF.val 9 rfl (hdep ⟨9, .data⟩ (by simp) rfl)
          simp only [e5, e9]
          have k1 : ¬ 9223372036854775807 < min j t.size + (s.size - i) := by have := KS.out; omega
          go_simp
          refine ⟨_, ?_, _, hF.setv (ok_st7 w x y u v s t i j) 10 rfl (.string ((t.extract 0 j) ++ (s.extract i s.size))) rfl⟩
          simp [upg, e5, e9]
        | 11, hop =>
          simp at hop; subst hop
          refine wpOp_run rfl rfl ?_
          simp only [Act.put, List.setIfInBounds_toArray, List.set_cons_succ, List.set_cons_zero]
          have e1 : uu 1 = .agg #[.int .i64 u, .int .i64 v] := hF.val 1 rfl (hdep ⟨1, .data⟩ (by simp) rfl)
          have e10 : uu 10 = .string ((t.extract 0 j) ++ (s.extract i s.size)) := hF.val 10 rfl (hdep ⟨10, .data⟩ (by simp) rfl)
          simp only [e1, e10]
          go_simp
          refine ⟨_, ?_, _, hF.setv (ok_st7 w x y u v s t i j) 11 rfl (.agg #[.int .i64 u, .int .i64 v, .string ((t.extract 0 j) ++ (s.extract i s.size))]) rfl⟩
          simp [upg, e1, e10]
        | 12, hop =>
          simp at hop; subst hop
          refine wpOp_run rfl rfl ?_
          simp only [Act.put, List.setIfInBounds_toArray, List.set_cons_succ, List.set_cons_zero]
          have HAL := hF.alloc (ok_st7 w x y u v s t i j) (t0_st7 w x y u v s t i j) (m0_st7 w x y u v s t i j) hL
          simp only [t0_st7] at HAL
          go_simp
          refine ⟨_, ?_, _, HAL⟩
          simp [upg]
        | 13, hop =>
          simp at hop; subst hop
          refine wpOp_run rfl rfl ?_
          simp only [Act.put, List.setIfInBounds_toArray, List.set_cons_succ, List.set_cons_zero]
          have e11 : uu 11 = .agg #[.int .i64 u, .int .i64 v, .string ((t.extract 0 j) ++ (s.extract i s.size))] := hF.val 11 rfl (hdep ⟨11, .data⟩ (by simp) rfl)
          have dp := hdep ⟨12, .data⟩ (by simp) rfl
          obtain ⟨ep, k2, k3, k4, _⟩ := hF.box (t0_st7 w x y u v s t i j) (m0_st7 w x y u v s t i j) dp
          have HST := hF.store (ok_st7 w x y u v s t i j) (t0_st7 w x y u v s t i j) (m0_st7 w x y u v s t i j) rfl dp hL
          simp only [t0_st7, hL, Bool.false_eq_true, and_false, if_false] at k4
          have s0 := k4 0 _ rfl
          have sc0 := s0.1; have sf0 := s0.2; clear s0
          have s1 := k4 1 _ rfl
          have sc1 := s1.1; have sf1 := s1.2; clear s1
          have s2 := k4 2 _ rfl
          have sc2 := s2.1; have sf2 := s2.2; clear s2
          simp only [RG.setN, t0_st7, Nat.zero_add] at HST ep
          simp only [e11, ep]
          clear hF k4 k2 k3 dp
          go_simp
          refine ⟨_, ?_, _, HST⟩
          simp [e11, ep]
        | jj + 14, hop => simp at hop
      · rintro LL a' WW2 hall ⟨uu, bb, rfl, hF⟩
        clear HRG0
        have e0 : uu 0 = .pointer (some ⟨w.heap.size + 1, 0, none⟩) := hF.val 0 rfl (hall 0 (by simp))
        have e1 : uu 1 = .agg #[.int .i64 u, .int .i64 v] := hF.val 1 rfl (hall 1 (by simp))
        have e2 : uu 2 = .pointer (some ⟨w.heap.size + 1, 2, none⟩) := hF.val 2 rfl (hall 2 (by simp))
        have e3 : uu 3 = .string t := hF.val 3 rfl (hall 3 (by simp))
        have e4 : uu 4 = .int .i64 (j : Int) := hF.val 4 rfl (hall 4 (by simp))
        have e5 : uu 5 = .string (t.extract 0 j) := hF.val 5 rfl (hall 5 (by simp))
        have e6 : uu 6 = .pointer (some ⟨w.heap.size, 2, none⟩) := hF.val 6 rfl (hall 6 (by simp))
        have e7 : uu 7 = .string s := hF.val 7 rfl (hall 7 (by simp))
        have e8 : uu 8 = .int .i64 (i : Int) := hF.val 8 rfl (hall 8 (by simp))
        have e9 : uu 9 = .string (s.extract i s.size) := hF.val 9 rfl (hall 9 (by simp))
        have e10 : uu 10 = .string ((t.extract 0 j) ++ (s.extract i s.size)) := hF.val 10 rfl (hall 10 (by simp))
        have e11 : uu 11 = .agg #[.int .i64 u, .int .i64 v, .string ((t.extract 0 j) ++ (s.extract i s.size))] := hF.val 11 rfl (hall 11 (by simp))
        obtain ⟨ep0, lo0, hi0, q0, _⟩ := hF.box (t0_st7 w x y u v s t i j) (m0_st7 w x y u v s t i j) (hall 12 (by simp))
        simp only [t0_st7, show LL 13 = true from hall 13 (by simp), and_self, if_true] at q0
        simp only [t0_st7] at ep0 lo0 hi0
        have bc00 := (q0 0 _ rfl).1
        have bc01 := (q0 1 _ rfl).1
        have bc02 := (q0 2 _ rfl).1
        clear q0
        have HBL := Lib.hid hF.below
        clear hF hall
        simp only [Act.put, List.setIfInBounds_toArray, List.set_cons_succ, List.set_cons_zero]
        simp only [e0, e1, e2, e3, e4, e5, e6, e7, e8, e9, e10, e11, ep0]
        clear e0 e1 e2 e3 e4 e5 e6 e7 e8 e9 e10 e11 ep0
        generalize bb 12 = b0 at *
        have HB2 := Lib.hid (HB.out.kept HBL.out)
        have hq1 := HQ1.out.1.below HBL.out
        have HQ2 : Hid (WB b0 u v (t.extract 0 j ++ s.extract i s.size) WW2) := Lib.hid ⟨bc00, bc01, bc02, hi0⟩
        have HQ1' := Lib.hid hq1
        have hl1 := HQ1.out.2
        have hl2 := Nat.lt_of_lt_of_le HB.out.lt lo0
        generalize b0 = g2 at *
        have HSD : Hid (SideR w.heap.size g1 g2 (w.heap.size + 1 + 1) (w.heap.size + 1 + 1 + 1) [.int .i64 x, .int .i64 y, .string (s.extract 0 i ++ t.extract j t.size)] [.int .i64 u, .int .i64 v, .string (t.extract 0 j ++ s.extract i s.size)] [.int .i64 0, .int .i64 0, .string ⟨#[]⟩]) := Lib.hid ⟨by omega, by omega, by omega, by omega, by omega, by omega, by omega, rfl, rfl⟩
        clear hq1 HBL HB hl1 hl2 lo0 hi0 bc00 bc01 bc02
        go_wp2_with fail
        have HR0 : R8 WW2 w.heap.size g1 g2 (w.heap.size + 1 + 1) (w.heap.size + 1 + 1 + 1) [.int .i64 x, .int .i64 y, .string (s.extract 0 i ++ t.extract j t.size)] [.int .i64 u, .int .i64 v, .string (t.extract 0 j ++ s.extract i s.size)] [.int .i64 0, .int .i64 0, .string ⟨#[]⟩] (.agg #[.int .i64 x, .int .i64 y, .string (s.extract 0 i ++ t.extract j t.size)]) (.agg #[.int .i64 u, .int .i64 v, .string (t.extract 0 j ++ s.extract i s.size)]) (fun _ => false) WW2.drew (fun _ => undef) := ⟨(Below.refl _ _).drew, ?_, ?_, ?_, ?_, (fun h => by cases h), (fun h => by cases h), (fun h => by cases h)⟩
        rotate_left
        · exact cells3 HQ1'.out.c0 HQ1'.out.c1 HQ1'.out.c2
        · exact cells3 HQ2.out.c0 HQ2.out.c1 HQ2.out.c2
        · exact HB2.out.z
        · exact HB2.out.z2
        have HRA : ∀ (a : Act), ∃ uu : Nat → Value, a = (((a.put (some 57) (uu 0)).put (some 58) (uu 1)).put (some 6) (uu 4)) ∧ R8 WW2 w.heap.size g1 g2 (w.heap.size + 1 + 1) (w.heap.size + 1 + 1 + 1) [.int .i64 x, .int .i64 y, .string (s.extract 0 i ++ t.extract j t.size)] [.int .i64 u, .int .i64 v, .string (t.extract 0 j ++ s.extract i s.size)] [.int .i64 0, .int .i64 0, .string ⟨#[]⟩] (.agg #[.int .i64 x, .int .i64 y, .string (s.extract 0 i ++ t.extract j t.size)]) (.agg #[.int .i64 u, .int .i64 v, .string (t.extract 0 j ++ s.extract i s.size)]) (fun _ => false) WW2.drew uu := fun a => ⟨fun j => a.tmps.getD (([57, 58, 0, 0, 6] : List Nat).getD j 0) undef, (by show a = (((a.put (some 57) (a.tmps.getD 57 undef)).put (some 58) (a.tmps.getD 58 undef)).put (some 6) (a.tmps.getD 6 undef)); simp only [put_same]), ⟨HR0.below, HR0.k1, HR0.k2, HR0.d1, HR0.d2, (fun h => by cases h), (fun h => by cases h), (fun h => by cases h)⟩⟩
        clear HR0
        refine wp_region_inv3 (fun a0 LL a W => ∃ uu : Nat → Value, a = (((a0.put (some 57) (uu 0)).put (some 58) (uu 1)).put (some 6) (uu 4)) ∧ R8 WW2 w.heap.size g1 g2 (w.heap.size + 1 + 1) (w.heap.size + 1 + 1 + 1) [.int .i64 x, .int .i64 y, .string (s.extract 0 i ++ t.extract j t.size)] [.int .i64 u, .int .i64 v, .string (t.extract 0 j ++ s.extract i s.size)] [.int .i64 0, .int .i64 0, .string ⟨#[]⟩] (.agg #[.int .i64 x, .int .i64 y, .string (s.extract 0 i ++ t.extract j t.size)]) (.agg #[.int .i64 u, .int .i64 v, .string (t.extract 0 j ++ s.extract i s.size)]) LL W uu) (by kernel_rfl) (by kernel_rfl) (HRA _) ?_ ?_
        · rintro jj op hop LL a' WW ⟨uu, rfl, hF⟩ hL hdep
          clear HRA
          match jj, hop with
          | 0, hop =>
            simp at hop; subst hop
            refine wpOp_run rfl rfl ?_
            simp only [Act.put, List.setIfInBounds_toArray, List.set_cons_succ, List.set_cons_zero]
            have r0 := hF.k1 0 _ rfl
            have r1 := hF.k1 1 _ rfl
            have r2 := hF.k1 2 _ rfl
            go_simp
            refine ⟨_, ?_, hF.set0⟩
            simp [upg]
          | 1, hop =>
            simp at hop; subst hop
            refine wpOp_run rfl rfl ?_
            simp only [Act.put, List.setIfInBounds_toArray, List.set_cons_succ, List.set_cons_zero]
            have r0 := hF.k2 0 _ rfl
            have r1 := hF.k2 1 _ rfl
            have r2 := hF.k2 2 _ rfl
            go_simp
            refine ⟨_, ?_, hF.set1⟩
            simp [upg]
          | 2, hop =>
            simp at hop; subst hop
            refine wpOp_run rfl rfl ?_
            simp only [Act.put, List.setIfInBounds_toArray, List.set_cons_succ, List.set_cons_zero]
            have e := hF.e0 (hdep ⟨0, .data⟩ (by simp) rfl)
            have HST := hF.st2 HSD.out hL
            have hd := hF.d1
            simp only [hL, Bool.false_eq_true, if_false] at hd
            have s0 := (hd 0 _ rfl).1; have f0 := (hd 0 _ rfl).2
            have s1 := (hd 1 _ rfl).1; have f1 := (hd 1 _ rfl).2
            have s2 := (hd 2 _ rfl).1; have f2 := (hd 2 _ rfl).2
            simp only [RG.setN, Nat.zero_add] at HST
            simp only [e]
            clear hF hd
            go_simp
            refine ⟨_, ?_, HST⟩
            simp [e]
          | 3, hop =>
            simp at hop; subst hop
            refine wpOp_run rfl rfl ?_
            simp only [Act.put, List.setIfInBounds_toArray, List.set_cons_succ, List.set_cons_zero]
            have e := hF.e1 (hdep ⟨1, .data⟩ (by simp) rfl)
            have HST := hF.st3 HSD.out hL
            have hd := hF.d2
            simp only [hL, Bool.false_eq_true, if_false] at hd
            have s0 := (hd 0 _ rfl).1; have f0 := (hd 0 _ rfl).2
            have s1 := (hd 1 _ rfl).1; have f1 := (hd 1 _ rfl).2
            have s2 := (hd 2 _ rfl).1; have f2 := (hd 2 _ rfl).2
            simp only [RG.setN, Nat.zero_add] at HST
            simp only [e]
            clear hF hd
            go_simp
            refine ⟨_, ?_, HST⟩
            simp [e]
          | 4, hop =>
            simp at hop; subst hop
            refine wpOp_run rfl rfl ?_
            simp only [Act.put, List.setIfInBounds_toArray, List.set_cons_succ, List.set_cons_zero]
            go_simp
            refine ⟨_, ?_, hF.set4⟩
            simp [upg]
          | jj + 5, hop => simp at hop
        · rintro LL a' WW3 hall ⟨uu, rfl, hF⟩
          clear HRA
          have e0 := hF.e0 (hall 0 (by simp))
          have e1 := hF.e1 (hall 1 (by simp))
          have e4 := hF.e4 (hall 4 (by simp))
          have q1 := hF.d1
          have q2 := hF.d2
          have hzb := HB2.out.below.trans hF.below
          simp only [show LL 2 = true from hall 2 (by simp), if_true] at q1
          simp only [show LL 3 = true from hall 3 (by simp), if_true] at q2
          have a0 := (q1 0 _ rfl).1
          have a1 := (q1 1 _ rfl).1
          have a2 := (q1 2 _ rfl).1
          have a3 := (q2 0 _ rfl).1
          have a4 := (q2 1 _ rfl).1
          have a5 := (q2 2 _ rfl).1
          clear hF hall q1 q2
          simp only [Act.put, List.setIfInBounds_toArray, List.set_cons_succ, List.set_cons_zero]
          simp only [e0, e1, e4]
          clear e0 e1 e4
          go_wp2_with fail
          refine bodyPost_ret (v := .tuple #[wyV (x, y, s.extract 0 i ++ t.extract j t.size), wyV (u, v, t.extract 0 j ++ s.extract i s.size), .bool true]) ?_ rfl ⟨rfl, hzb⟩
          simp [results, Try.f46, go_sem, a0, a1, a2, a3, a4, a5]
end Go.Proofs.Ytahnknbggacndaa
