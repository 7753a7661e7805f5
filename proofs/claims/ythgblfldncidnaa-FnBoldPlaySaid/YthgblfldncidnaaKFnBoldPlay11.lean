/- Pack 11 of what FnBoldPlay needs: RuW, RzS. -/
import Derived.Test.YthgblfldncidnaaKFnBoldPlay10
/- The model's ruPower, ruAsked, ruWin. -/
namespace Go.Proofs.Ythgblfldncidnaa
open Go.RowKit
set_option linter.unusedVariables false
theorem pow6 {x : Int} (hx : 0 ≤ x ∧ x ≤ 6) {k : Nat} (hk : k ≤ 18) : 0 ≤ x ^ k ∧ x ^ k ≤ 101559956668416 := by
  obtain ⟨a, rfl⟩ := Int.eq_ofNat_of_zero_le hx.1
  rw [← pow_cast]
  have h1 : a ^ k ≤ 6 ^ k := Nat.pow_le_pow_left (by omega) k
  have h2 : (6 : Nat) ^ k ≤ 6 ^ 18 := Nat.pow_le_pow_right (by omega) hk
  have h3 : (6 : Nat) ^ 18 = 101559956668416 := by decide
  omega
set_option maxHeartbeats 1000000 in
theorem ruAsked_any (i g n d : Int) (w : World) : Calls Try.prog 23 #[.int .i64 i, .int .i64 g, .agg #[.int .i64 n, .int .i64 d]] w (Ret w (.bool (askB i g n d))) := by
  have H1 : Hid (∀ w, Calls Try.prog 31 #[.int .i64 g, .int .i64 1, .int .i64 12] w fun e w' => e = .returned (.bool (inBd 1 12 g)) ∧ w = w') := Lib.hid fun w => in_any g 1 12 w
  have H2 : Hid (∀ w, Calls Try.prog 31 #[.int .i64 i, .int .i64 0, .int .i64 g] w fun e w' => e = .returned (.bool (inBd 0 g i)) ∧ w = w') := Lib.hid fun w => in_any i 0 g w
  have H3 : Hid (∀ w, Calls Try.prog 39 #[.agg #[.int .i64 n, .int .i64 d]] w (Ret w (.bool (ruB n d)))) := Lib.hid fun w => ruIs_any n d w
  have hb0 := (RBox.start w n d).2.2.2
  unfold askB
  generalize ruB n d = b3 at *
  rcases Bool.eq_false_or_eq_true (inBd 1 12 g) with a1 | a1
  · rcases Bool.eq_false_or_eq_true (inBd 0 g i) with a2 | a2
    · rw [a1] at H1 ⊢
      rw [a2] at H2 ⊢
      clear a1 a2
      go_enter Try.func23, Try.ntmps23
      go_wp2_with (first | (go_at_call 31; first | (with_reducible refine (H1.out _).mono ?_; rintro e w' ⟨rfl, rfl⟩) | (with_reducible refine (H2.out _).mono ?_; rintro e w' ⟨rfl, rfl⟩)) | (go_at_call 39; refine (H3.out _).mono ?_; rintro e w' ⟨rfl, hb'⟩))
      go_ret
      exact ⟨by simp, hb0.trans (hb'.mono (by simp))⟩
    · rw [a1] at H1 ⊢
      rw [a2] at H2 ⊢
      clear a1 a2
      go_enter Try.func23, Try.ntmps23
      go_wp2_with (go_at_call 31; first | (with_reducible refine (H1.out _).mono ?_; rintro e w' ⟨rfl, rfl⟩) | (with_reducible refine (H2.out _).mono ?_; rintro e w' ⟨rfl, rfl⟩))
      go_ret
      exact ⟨by simp, hb0⟩
  · rw [a1] at H1 ⊢
    clear a1
    go_enter Try.func23, Try.ntmps23
    go_wp2_with (go_at_call 31; refine (H1.out _).mono ?_; rintro e w' ⟨rfl, rfl⟩)
    go_ret
    exact ⟨by simp, hb0⟩
/-- an empty ratio at b, in a world behind w -/
structure ZBox (w : World) (b : Nat) (W : World) : Prop where
  c0 : W.cell? ⟨b, 0, none⟩ = some (.int .i64 0)
  c1 : W.cell? ⟨b, 1, none⟩ = some (.int .i64 0)
  f0 : W.frozen? ⟨b, 0, none⟩ = false
  f1 : W.frozen? ⟨b, 1, none⟩ = false
  lt : b < W.heap.size
  lo : w.heap.size ≤ b
  below : Below w.heap.size w W
theorem ZBox.kept {w W W' : World} {b : Nat} (h : ZBox w b W) (hb : Below W.heap.size W W') : ZBox w b W' :=
  ⟨(hb.cell (p := ⟨b, 0, none⟩) h.lt).trans h.c0, (hb.cell (p := ⟨b, 1, none⟩) h.lt).trans h.c1, (hb.frozen (p := ⟨b, 0, none⟩) h.lt).trans h.f0, (hb.frozen (p := ⟨b, 1, none⟩) h.lt).trans h.f1, Nat.lt_of_lt_of_le h.lt hb.size, h.lo, h.below.trans (hb.mono h.below.size)⟩
theorem ZBox.start (w : World) (n d : Int) : ZBox w (w.heap.size + 1) ((w.alloc (.cells #[.int .i64 n, .int .i64 d] 25)).alloc (.cells #[.int .i64 0, .int .i64 0] 25)) :=
  ⟨by simp [go_sem], by simp [go_sem], by simp [go_sem], by simp [go_sem], by simp, by omega, ((Below.refl _ _).alloc (Nat.le_refl _) _).alloc (by simp) _⟩
theorem ZBox.done {w W : World} {b : Nat} (h : ZBox w b W) (x y : Int) :
    ((W.setCell ⟨b, 0, none⟩ (.int .i64 x)).setCell ⟨b, 1, none⟩ (.int .i64 y)).cell? ⟨b, 0, none⟩ = some (.int .i64 x) ∧ ((W.setCell ⟨b, 0, none⟩ (.int .i64 x)).setCell ⟨b, 1, none⟩ (.int .i64 y)).cell? ⟨b, 1, none⟩ = some (.int .i64 y) ∧
    Below w.heap.size w ((W.setCell ⟨b, 0, none⟩ (.int .i64 x)).setCell ⟨b, 1, none⟩ (.int .i64 y)) :=
  ⟨(World.cell?_setCell_other _ _ _ _ (by simp)).trans (World.cell?_setCell_same' _ _ _ (by rw [h.c0]; rfl)), World.cell?_setCell_same' _ _ _ (by rw [World.cell?_setCell_other _ _ _ _ (by simp), h.c1]; rfl),
    (h.below.setCell (p := ⟨b, 0, none⟩) h.lo _).setCell (p := ⟨b, 1, none⟩) h.lo _⟩
theorem wp_nameR {P : Program} {c : Code} {Q : Exit → Act → World → Prop} {a : Act} {w : World} (S : World → Prop) (h : S w) (k : ∀ W, S W → c.wp P Q a W) : c.wp P Q a w := k w h
end Go.Proofs.Ythgblfldncidnaa

/- The model's WinChance, RuinChance, MeanHeld. -/
namespace Go.Proofs.Ythgblfldncidnaa
open Go.RowKit
set_option linter.unusedVariables false
/-- a function's chance, in its box at the heap's end, and its empty result behind it -/
structure RZ (w : World) (n d : Int) (W : World) : Prop where
  r : RBox w w.heap.size n d W
  z : ZBox w (w.heap.size + 1) W
theorem RZ.kept {w W W' : World} {n d : Int} (h : RZ w n d W) (hb : Below W.heap.size W W') : RZ w n d W' := ⟨h.r.kept hb, h.z.kept hb⟩
theorem RZ.start (w : World) (n d : Int) : RZ w n d ((w.alloc (.cells #[.int .i64 n, .int .i64 d] 25)).alloc (.cells #[.int .i64 0, .int .i64 0] 25)) :=
  ⟨(RBox.start w n d).kept ((Below.refl _ _).alloc (Nat.le_refl _) _), ZBox.start w n d⟩
/-- what a call that returns a ratio and a bool hands back -/
abbrev ratRet (x y : Int) (ok : Bool) : Value := .tuple #[.agg #[.int .i64 x, .int .i64 y], .bool ok]
def waP (i g n d : Int) : Int := if askB i g n d = true then winP i g n d else 0
def waQ (i g n d : Int) : Int := if askB i g n d = true then winQ i g n d else 0
def riP (i g n d : Int) : Int := if askB i g n d = true then numZ (winQ i g n d - winP i g n d) (winQ i g n d) else 0
def riQ (i g n d : Int) : Int := if askB i g n d = true then denZ (winQ i g n d - winP i g n d) (winQ i g n d) else 0
def mhP (i g n d : Int) : Int := if askB i g n d = true then numZ (g * winP i g n d) (winQ i g n d) else 0
def mhQ (i g n d : Int) : Int := if askB i g n d = true then denZ (g * winP i g n d) (winQ i g n d) else 0
end Go.Proofs.Ythgblfldncidnaa
