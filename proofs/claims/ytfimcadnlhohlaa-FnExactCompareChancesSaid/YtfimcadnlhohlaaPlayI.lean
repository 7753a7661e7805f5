/- The program's IsChance, isPlay, isWithinPlay. -/
import Derived.Test.YtfimcadnlhohlaaLowI
namespace Go.Proofs.Ytfimcadnlhohlaa
open Go.RowKit
set_option linter.unusedVariables false
theorem within_lit (lo hi x : Int) (X : World) : Calls Try.prog 54 #[.int .i64 lo, .int .i64 hi, .slice (some ⟨X.heap.size, 0, none⟩) 1 1] (X.alloc (.cells #[.int .i64 x] 3)) fun e w' => e = .returned (.bool (inBd lo hi x)) ∧ Below X.heap.size X w' :=
  (within_one lo hi x X).mono fun e w' ⟨h1, h2⟩ => ⟨h1, h2 ▸ (Below.refl _ _).alloc (Nat.le_refl _) _⟩
theorem within_lit2 (lo hi x y : Int) (X : World) : Calls Try.prog 54 #[.int .i64 lo, .int .i64 hi, .slice (some ⟨X.heap.size, 0, none⟩) 2 2] (X.alloc (.cells #[.int .i64 x, .int .i64 y] 3)) fun e w' => e = .returned (.bool (inBd lo hi x && inBd lo hi y)) ∧ Below X.heap.size X w' :=
  (within_two lo hi x y X).mono fun e w' ⟨h1, h2⟩ => ⟨h1, h2 ▸ (Below.refl _ _).alloc (Nat.le_refl _) _⟩
theorem ruB_alt (n d : Int) : (inBd 1 6 d && (inBd 1 (d - 1) n && (numZ n d == n && denZ n d == d))) = ruB n d := by
  unfold ruB
  by_cases h : d = 1
  · have e1 : inBd 1 (d - 1) n = false := by unfold inBd; rw [Bool.and_eq_false_iff, decide_eq_false_iff_not, decide_eq_false_iff_not]; omega
    rw [e1, Bool.false_and, Bool.and_false, Bool.and_false, Bool.false_and]
  · have e1 : inBd 1 6 d = inBd 2 6 d := by
      unfold inBd
      rw [Bool.eq_iff_iff]
      simp only [Bool.and_eq_true, decide_eq_true_eq]
      omega
    rw [e1, Bool.and_assoc]
set_option maxRecDepth 100000 in
set_option maxHeartbeats 2000000 in
theorem isChanceI_ret (n d : Int) (w : World) : Calls Try.prog 20 #[.agg #[.int .i64 n, .int .i64 d]] w (Ret w (.bool (ruB n d))) := by
  obtain ⟨W, hW⟩ : ∃ W, W = w.alloc (.cells #[.int .i64 n, .int .i64 d] 25) := ⟨_, rfl⟩; have hz : W.heap.size = w.heap.size + 1 := (by simp [hW]); have hbx : RBox w w.heap.size n d W := (by rw [hW]; exact RBox.start w n d); have HX := Lib.hid hbx; have HW := Lib.hid hW; have HZ := Lib.hid hz; have r0 := hbx.1; have r1 := hbx.2.1; clear hbx hz
  rw [hW] at r0 r1
  clear hW
  have H1 : Hid (∀ X : World, Calls Try.prog 54 #[.int .i64 1, .int .i64 6, .slice (some ⟨X.heap.size, 0, none⟩) 1 1] (X.alloc (.cells #[.int .i64 d] 3)) fun e w' => e = .returned (.bool (inBd 1 6 d)) ∧ Below X.heap.size X w') := Lib.hid (within_lit 1 6 d)
  have H2 : Hid (∀ X : World, Calls Try.prog 54 #[.int .i64 1, .int .i64 (d - 1), .slice (some ⟨X.heap.size, 0, none⟩) 1 1] (X.alloc (.cells #[.int .i64 n] 3)) fun e w' => e = .returned (.bool (inBd 1 (d - 1) n)) ∧ Below X.heap.size X w') := Lib.hid (within_lit 1 (d - 1) n)
  rw [← ruB_alt]
  rcases Bool.eq_false_or_eq_true (inBd 1 6 d) with a1 | a1
  · have hd : 1 ≤ d ∧ d ≤ 6 := by unfold inBd at a1; simpa only [Bool.and_eq_true, decide_eq_true_eq] using a1
    have k1 := IntWalk.i64_in (d - 1) (by omega)
    rcases Bool.eq_false_or_eq_true (inBd 1 (d - 1) n) with a2 | a2
    · have hn : 1 ≤ n ∧ n ≤ d - 1 := by unfold inBd at a2; simpa only [Bool.and_eq_true, decide_eq_true_eq] using a2
      have H3 : Hid (∀ w, Calls Try.prog 55 #[.agg #[.int .i64 n, .int .i64 d]] w (Ret w (.bool (numZ n d == n && denZ n d == d)))) := Lib.hid fun w => isLowest_any n d w (by omega) (by omega)
      rw [a1] at H1 ⊢
      rw [a2] at H2 ⊢
      generalize (numZ n d == n && denZ n d == d) = b at *
      clear a1 a2
      go_enter Try.func20, Try.ntmps20
      go_wp2_with (rw [← HW.out]; rw [← HZ.out]; go_at_call 54; refine (H1.out _).mono ?_; rintro e w1 ⟨rfl, hb1⟩; have hx1 := HX.out.kept hb1; have c0 := hx1.1; have c1 := hx1.2.1; have HX1 := Lib.hid hx1; clear hx1 hb1)
      clear r0 r1
      go_wp2_with (first | (go_at_call 54; refine (H2.out _).mono ?_; rintro e w2 ⟨rfl, hb2⟩; have hx2 := HX1.out.kept hb2; have g0 := hx2.1; have g1 := hx2.2.1; have HX2 := Lib.hid hx2; clear hx2 hb2 c0 c1) | (go_at_call 55; refine (H3.out _).mono ?_; rintro e w3 ⟨rfl, hb3⟩))
      go_ret
      exact ⟨by simp, HX2.out.2.2.2.trans (hb3.mono HX2.out.2.2.2.size)⟩
    · rw [a1] at H1 ⊢
      rw [a2] at H2 ⊢
      clear a1 a2
      go_enter Try.func20, Try.ntmps20
      go_wp2_with (rw [← HW.out]; rw [← HZ.out]; go_at_call 54; refine (H1.out _).mono ?_; rintro e w1 ⟨rfl, hb1⟩; have hx1 := HX.out.kept hb1; have c0 := hx1.1; have c1 := hx1.2.1; have HX1 := Lib.hid hx1; clear hx1 hb1)
      clear r0 r1
      go_wp2_with (go_at_call 54; refine (H2.out _).mono ?_; rintro e w2 ⟨rfl, hb2⟩; have hx2 := HX1.out.kept hb2; have g0 := hx2.1; have g1 := hx2.2.1; have HX2 := Lib.hid hx2; clear hx2 hb2 c0 c1)
      go_ret
      exact ⟨by simp, HX2.out.2.2.2⟩
  · rw [a1] at H1 ⊢
    clear a1
    go_enter Try.func20, Try.ntmps20
    go_wp2_with (rw [← HW.out]; rw [← HZ.out]; go_at_call 54; refine (H1.out _).mono ?_; rintro e w1 ⟨rfl, hb1⟩; have hx1 := HX.out.kept hb1; have c0 := hx1.1; have c1 := hx1.2.1; have HX1 := Lib.hid hx1; clear hx1 hb1)
    go_ret
    exact ⟨by simp, HX1.out.2.2.2⟩
set_option maxRecDepth 100000 in
set_option maxHeartbeats 2000000 in
theorem isPlay_ret (i g n d : Int) (w : World) : Calls Try.prog 58 #[.int .i64 i, .int .i64 g, .agg #[.int .i64 n, .int .i64 d]] w (Ret w (.bool (askB i g n d))) := by
  obtain ⟨W, hW⟩ : ∃ W, W = w.alloc (.cells #[.int .i64 n, .int .i64 d] 25) := ⟨_, rfl⟩; have hz : W.heap.size = w.heap.size + 1 := (by simp [hW]); have hbx : RBox w w.heap.size n d W := (by rw [hW]; exact RBox.start w n d); have HX := Lib.hid hbx; have HW := Lib.hid hW; have HZ := Lib.hid hz; have r0 := hbx.1; have r1 := hbx.2.1; clear hbx hz
  rw [hW] at r0 r1
  clear hW
  have H1 : Hid (∀ X : World, Calls Try.prog 54 #[.int .i64 1, .int .i64 12, .slice (some ⟨X.heap.size, 0, none⟩) 1 1] (X.alloc (.cells #[.int .i64 g] 3)) fun e w' => e = .returned (.bool (inBd 1 12 g)) ∧ Below X.heap.size X w') := Lib.hid (within_lit 1 12 g)
  have H2 : Hid (∀ X : World, Calls Try.prog 54 #[.int .i64 0, .int .i64 g, .slice (some ⟨X.heap.size, 0, none⟩) 1 1] (X.alloc (.cells #[.int .i64 i] 3)) fun e w' => e = .returned (.bool (inBd 0 g i)) ∧ Below X.heap.size X w') := Lib.hid (within_lit 0 g i)
  have H3 : Hid (∀ w, Calls Try.prog 20 #[.agg #[.int .i64 n, .int .i64 d]] w (Ret w (.bool (ruB n d)))) := Lib.hid fun w => isChanceI_ret n d w
  unfold askB
  generalize ruB n d = b at *
  rcases Bool.eq_false_or_eq_true (inBd 1 12 g) with a1 | a1
  · rcases Bool.eq_false_or_eq_true (inBd 0 g i) with a2 | a2
    · rw [a1] at H1 ⊢
      rw [a2] at H2 ⊢
      clear a1 a2
      go_enter Try.func58, Try.ntmps58
      go_wp2_with (rw [← HW.out]; rw [← HZ.out]; go_at_call 54; refine (H1.out _).mono ?_; rintro e w1 ⟨rfl, hb1⟩; have hx1 := HX.out.kept hb1; have c0 := hx1.1; have c1 := hx1.2.1; have HX1 := Lib.hid hx1; clear hx1 hb1)
      clear r0 r1
      go_wp2_with (first | (go_at_call 54; refine (H2.out _).mono ?_; rintro e w2 ⟨rfl, hb2⟩; have hx2 := HX1.out.kept hb2; have g0 := hx2.1; have g1 := hx2.2.1; have HX2 := Lib.hid hx2; clear hx2 hb2 c0 c1) | (go_at_call 20; refine (H3.out _).mono ?_; rintro e w3 ⟨rfl, hb3⟩))
      go_ret
      exact ⟨by simp, HX2.out.2.2.2.trans (hb3.mono HX2.out.2.2.2.size)⟩
    · rw [a1] at H1 ⊢
      rw [a2] at H2 ⊢
      clear a1 a2
      go_enter Try.func58, Try.ntmps58
      go_wp2_with (rw [← HW.out]; rw [← HZ.out]; go_at_call 54; refine (H1.out _).mono ?_; rintro e w1 ⟨rfl, hb1⟩; have hx1 := HX.out.kept hb1; have c0 := hx1.1; have c1 := hx1.2.1; have HX1 := Lib.hid hx1; clear hx1 hb1)
      clear r0 r1
      go_wp2_with (go_at_call 54; refine (H2.out _).mono ?_; rintro e w2 ⟨rfl, hb2⟩; have hx2 := HX1.out.kept hb2; have g0 := hx2.1; have g1 := hx2.2.1; have HX2 := Lib.hid hx2; clear hx2 hb2 c0 c1)
      go_ret
      exact ⟨by simp, HX2.out.2.2.2⟩
  · rw [a1] at H1 ⊢
    clear a1
    go_enter Try.func58, Try.ntmps58
    go_wp2_with (rw [← HW.out]; rw [← HZ.out]; go_at_call 54; refine (H1.out _).mono ?_; rintro e w1 ⟨rfl, hb1⟩; have hx1 := HX.out.kept hb1; have c0 := hx1.1; have c1 := hx1.2.1; have HX1 := Lib.hid hx1; clear hx1 hb1)
    go_ret
    exact ⟨by simp, HX1.out.2.2.2⟩
set_option maxHeartbeats 1000000 in
theorem isWithinPlay_any (v : Value) (xs : List Int) (g : Int) (w : World) (h : RInts w v xs) (hl : xs.length ≤ 1048576) :
    Calls Try.prog 71 #[.int .i64 g, v] w (Ret w (.bool (inBd 1 12 g && allB xs 1 (g - 1)))) := by
  have H1 : Hid (∀ X : World, Calls Try.prog 54 #[.int .i64 1, .int .i64 12, .slice (some ⟨X.heap.size, 0, none⟩) 1 1] (X.alloc (.cells #[.int .i64 g] 3)) fun e w' => e = .returned (.bool (inBd 1 12 g)) ∧ Below X.heap.size X w') := Lib.hid (within_lit 1 12 g)
  have H2 : Hid (∀ X : World, Below w.heap.size w X → Calls Try.prog 54 #[.int .i64 1, .int .i64 (g - 1), v] X fun e w' => e = .returned (.bool (allB xs 1 (g - 1))) ∧ X = w') := Lib.hid fun X hX => within_any v xs 1 (g - 1) X (h.below hX) hl
  clear h
  generalize allB xs 1 (g - 1) = b at *
  rcases Bool.eq_false_or_eq_true (inBd 1 12 g) with a1 | a1
  · have hg : 1 ≤ g ∧ g ≤ 12 := by unfold inBd at a1; simpa only [Bool.and_eq_true, decide_eq_true_eq] using a1
    have k1 := IntWalk.i64_in (g - 1) (by omega)
    rw [a1] at H1 ⊢
    clear a1
    have tok1 : True := trivial
    go_enter Try.func71, Try.ntmps71
    go_wp2_with (first | (have _t := tok1; go_at_call 54; clear _t tok1; refine (H1.out _).mono ?_; rintro e w1 ⟨rfl, hb1⟩) | (go_at_call 54; refine (H2.out _ hb1).mono ?_; rintro e w2 ⟨rfl, rfl⟩))
    go_ret
    exact ⟨by simp, hb1⟩
  · rw [a1] at H1 ⊢
    clear a1
    go_enter Try.func71, Try.ntmps71
    go_wp2_with (go_at_call 54; refine (H1.out _).mono ?_; rintro e w1 ⟨rfl, hb1⟩)
    go_ret
    exact ⟨by simp, hb1⟩
theorem play_lit (g x : Int) (X : World) : Calls Try.prog 71 #[.int .i64 g, .slice (some ⟨X.heap.size, 0, none⟩) 1 1] (X.alloc (.cells #[.int .i64 x] 3)) fun e w' => e = .returned (.bool (inBd 1 12 g && inBd 1 (g - 1) x)) ∧ Below X.heap.size X w' :=
  (isWithinPlay_any _ [x] g _ (one_ints X x) (by simp)).mono fun e w' ⟨h1, h2⟩ => ⟨by rw [h1]; simp [allB], ((Below.refl _ _).alloc (Nat.le_refl _) _).trans (h2.mono (by simp))⟩
theorem play_lit2 (g x y : Int) (X : World) : Calls Try.prog 71 #[.int .i64 g, .slice (some ⟨X.heap.size, 0, none⟩) 2 2] (X.alloc (.cells #[.int .i64 x, .int .i64 y] 3)) fun e w' => e = .returned (.bool (inBd 1 12 g && (inBd 1 (g - 1) x && inBd 1 (g - 1) y))) ∧ Below X.heap.size X w' :=
  (isWithinPlay_any _ [x, y] g _ (two_ints X x y) (by simp)).mono fun e w' ⟨h1, h2⟩ => ⟨by rw [h1]; simp [allB], ((Below.refl _ _).alloc (Nat.le_refl _) _).trans (h2.mono (by simp))⟩
end Go.Proofs.Ytfimcadnlhohlaa
