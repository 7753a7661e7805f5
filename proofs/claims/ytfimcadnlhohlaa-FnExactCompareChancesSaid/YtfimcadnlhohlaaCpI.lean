/- The program's isCompared, guessedOrder, CompareChances. -/
import Derived.Test.YtfimcadnlhohlaaPlayI
import Derived.Test.YtfimcadnlhohlaaFlI
namespace Go.Proofs.Ytfimcadnlhohlaa
open Go.RowKit
set_option linter.unusedVariables false
set_option maxRecDepth 100000 in
set_option maxHeartbeats 2000000 in
theorem isCompared_ret (n d : Int) (w : World) : Calls Try.prog 80 #[.agg #[.int .i64 n, .int .i64 d]] w (Ret w (.bool (ruC n d))) := by
  obtain ⟨W, hW⟩ : ∃ W, W = w.alloc (.cells #[.int .i64 n, .int .i64 d] 25) := ⟨_, rfl⟩; have hz : W.heap.size = w.heap.size + 1 := (by simp [hW]); have hbx : RBox w w.heap.size n d W := (by rw [hW]; exact RBox.start w n d); have HX := Lib.hid hbx; have HW := Lib.hid hW; have HZ := Lib.hid hz; have r0 := hbx.1; have r1 := hbx.2.1; clear hbx hz
  rw [hW] at r0 r1
  clear hW
  have H1 : Hid (∀ X : World, Calls Try.prog 54 #[.int .i64 0, .int .i64 1000000000, .slice (some ⟨X.heap.size, 0, none⟩) 1 1] (X.alloc (.cells #[.int .i64 n] 3)) fun e w' => e = .returned (.bool (inBd 0 1000000000 n)) ∧ Below X.heap.size X w') := Lib.hid (within_lit 0 1000000000 n)
  have H2 : Hid (∀ X : World, Calls Try.prog 54 #[.int .i64 1, .int .i64 1000000000, .slice (some ⟨X.heap.size, 0, none⟩) 1 1] (X.alloc (.cells #[.int .i64 d] 3)) fun e w' => e = .returned (.bool (inBd 1 1000000000 d)) ∧ Below X.heap.size X w') := Lib.hid (within_lit 1 1000000000 d)
  unfold ruC
  rcases Bool.eq_false_or_eq_true (inBd 0 1000000000 n) with a1 | a1
  · have hn : 0 ≤ n ∧ n ≤ 1000000000 := by unfold inBd at a1; simpa only [Bool.and_eq_true, decide_eq_true_eq] using a1
    rcases Bool.eq_false_or_eq_true (inBd 1 1000000000 d) with a2 | a2
    · have hd : 1 ≤ d ∧ d ≤ 1000000000 := by unfold inBd at a2; simpa only [Bool.and_eq_true, decide_eq_true_eq] using a2
      have H3 : Hid (∀ w, Calls Try.prog 55 #[.agg #[.int .i64 n, .int .i64 d]] w (Ret w (.bool (numZ n d == n && denZ n d == d)))) := Lib.hid fun w => isLowest_any n d w (by omega) (by omega)
      rw [a1] at H1 ⊢
      rw [a2] at H2 ⊢
      generalize (numZ n d == n && denZ n d == d) = b at *
      clear a1 a2
      go_enter Try.func80, Try.ntmps80
      go_wp2_with (rw [← HW.out]; rw [← HZ.out]; go_at_call 54; refine (H1.out _).mono ?_; rintro e w1 ⟨rfl, hb1⟩; have hx1 := HX.out.kept hb1; have c0 := hx1.1; have c1 := hx1.2.1; have HX1 := Lib.hid hx1; clear hx1 hb1)
      clear r0 r1
      go_wp2_with (first | (go_at_call 54; refine (H2.out _).mono ?_; rintro e w2 ⟨rfl, hb2⟩; have hx2 := HX1.out.kept hb2; have g0 := hx2.1; have g1 := hx2.2.1; have HX2 := Lib.hid hx2; clear hx2 hb2 c0 c1) | (go_at_call 55; refine (H3.out _).mono ?_; rintro e w3 ⟨rfl, hb3⟩))
      go_ret
      exact ⟨by simp, HX2.out.2.2.2.trans (hb3.mono HX2.out.2.2.2.size)⟩
    · rw [a1] at H1 ⊢
      rw [a2] at H2 ⊢
      clear a1 a2
      go_enter Try.func80, Try.ntmps80
      go_wp2_with (rw [← HW.out]; rw [← HZ.out]; go_at_call 54; refine (H1.out _).mono ?_; rintro e w1 ⟨rfl, hb1⟩; have hx1 := HX.out.kept hb1; have c0 := hx1.1; have c1 := hx1.2.1; have HX1 := Lib.hid hx1; clear hx1 hb1)
      clear r0 r1
      go_wp2_with (go_at_call 54; refine (H2.out _).mono ?_; rintro e w2 ⟨rfl, hb2⟩; have hx2 := HX1.out.kept hb2; have g0 := hx2.1; have g1 := hx2.2.1; have HX2 := Lib.hid hx2; clear hx2 hb2 c0 c1)
      go_ret
      exact ⟨by simp, HX2.out.2.2.2⟩
  · rw [a1] at H1 ⊢
    clear a1
    go_enter Try.func80, Try.ntmps80
    go_wp2_with (rw [← HW.out]; rw [← HZ.out]; go_at_call 54; refine (H1.out _).mono ?_; rintro e w1 ⟨rfl, hb1⟩; have hx1 := HX.out.kept hb1; have c0 := hx1.1; have c1 := hx1.2.1; have HX1 := Lib.hid hx1; clear hx1 hb1)
    go_ret
    exact ⟨by simp, HX1.out.2.2.2⟩
/-- an order that is told, or 0 -/
def OrdRet (w : World) (z : Int) (e : Ending) (w' : World) : Prop := ∃ o : Int, e = .returned (.int .i64 o) ∧ (o = 0 ∨ (o ≠ 0 ∧ o = z)) ∧ Below w.heap.size w w'
theorem r2Mk {w X : World} {n d m e : Int} (h : R2 w n d m e X) : X.cell? ⟨w.heap.size, 0, none⟩ = some (.int .i64 n) ∧ X.cell? ⟨w.heap.size, 1, none⟩ = some (.int .i64 d) ∧ X.cell? ⟨w.heap.size + 1, 0, none⟩ = some (.int .i64 m) ∧ X.cell? ⟨w.heap.size + 1, 1, none⟩ = some (.int .i64 e) ∧ R2 w n d m e X := ⟨h.a.1, h.a.2.1, h.b.1, h.b.2.1, h⟩
theorem r2Keep {w X X' : World} {n d m e : Int} (h : X.cell? ⟨w.heap.size, 0, none⟩ = some (.int .i64 n) ∧ X.cell? ⟨w.heap.size, 1, none⟩ = some (.int .i64 d) ∧ X.cell? ⟨w.heap.size + 1, 0, none⟩ = some (.int .i64 m) ∧ X.cell? ⟨w.heap.size + 1, 1, none⟩ = some (.int .i64 e) ∧ R2 w n d m e X) (hb : Below X.heap.size X X') :
    X'.cell? ⟨w.heap.size, 0, none⟩ = some (.int .i64 n) ∧ X'.cell? ⟨w.heap.size, 1, none⟩ = some (.int .i64 d) ∧ X'.cell? ⟨w.heap.size + 1, 0, none⟩ = some (.int .i64 m) ∧ X'.cell? ⟨w.heap.size + 1, 1, none⟩ = some (.int .i64 e) ∧ R2 w n d m e X' := r2Mk (h.2.2.2.2.kept hb)
theorem r2Of {w X : World} {n d m e : Int} (h : X.cell? ⟨w.heap.size, 0, none⟩ = some (.int .i64 n) ∧ X.cell? ⟨w.heap.size, 1, none⟩ = some (.int .i64 d) ∧ X.cell? ⟨w.heap.size + 1, 0, none⟩ = some (.int .i64 m) ∧ X.cell? ⟨w.heap.size + 1, 1, none⟩ = some (.int .i64 e) ∧ R2 w n d m e X) : R2 w n d m e X := h.2.2.2.2
set_option maxRecDepth 100000 in
set_option maxHeartbeats 2000000 in
theorem guessed_ret (n d m k : Nat) (w : World) (hn : n ≤ 1000000000) (hd : 1 ≤ d ∧ d ≤ 1000000000) (hm : m ≤ 1000000000) (hk : 1 ≤ k ∧ k ≤ 1000000000) :
    Calls Try.prog 81 #[.agg #[.int .i64 (n : Int), .int .i64 (d : Int)], .agg #[.int .i64 (m : Int), .int .i64 (k : Int)]] w (OrdRet w (sgZ ((n : Int) * k - (m : Int) * d))) := by
  obtain ⟨f, s, c1, c2, N, p, q, mx, G⟩ := guessed hn hd hm hk
  have G1 : Hid (∀ w, Calls Try.prog 89 #[.agg #[.int .i64 (n : Int), .int .i64 (d : Int)]] w (Ret w (.float .f32 f))) := Lib.hid fun w => guess_any n d f w G.gf
  have G2 : Hid (∀ w, Calls Try.prog 89 #[.agg #[.int .i64 (m : Int), .int .i64 (k : Int)]] w (Ret w (.float .f32 s))) := Lib.hid fun w => guess_any m k s w G.gs
  have SU : Hid (∀ X : World, Calls Try.prog 90 #[.slice (some ⟨X.heap.size, 0, none⟩) 2 2] (X.alloc (.cells #[.float .f32 f, .float .f32 s] 76)) fun e w' => e = .returned (.float .f32 c2) ∧ Below X.heap.size X w') := Lib.hid fun X => (sumF_any f s c1 c2 X G.a1 G.a2).mono fun e w' ⟨h1, h2⟩ => ⟨h1, h2 ▸ (Below.refl _ _).alloc (Nat.le_refl _) _⟩
  have hop1 : ∀ t w, (binOp .quo t (.float .f32 c2) (.float .f32 1233125376)).run Try.prog w = .ok (.float .f32 N) w := fun t w => run_float_arith w .quo t .f32 _ _ N G.dv
  have hop2 : ∀ t w, (binOp .sub t (.float .f32 f) (.float .f32 s)).run Try.prog w = .ok (.float .f32 p) w := fun t w => run_float_arith w .sub t .f32 _ _ p G.sp
  have hop3 : ∀ t w, (binOp .sub t (.float .f32 s) (.float .f32 f)).run Try.prog w = .ok (.float .f32 q) w := fun t w => run_float_arith w .sub t .f32 _ _ q G.sq
  have hop4 : ∀ ts t w, (Builtin.max_ ts t #[.float .f32 p, .float .f32 q]).run Try.prog w = .ok (.float .f32 mx) w := fun ts t w => run_maxF ts t p q mx w G.mxo
  have HR2 := Lib.hid ((R2.start w (n : Int) d m k).kept (Below.refl _ _).drew)
  have GF := Lib.hid G.ff
  have GS := Lib.hid G.ss
  have GO := Lib.hid G.ord
  have HC1 : Hid (∀ w, Ieee.single.order f s = some .gt → Calls Try.prog 91 #[.float .f32 f, .float .f32 s] w fun e w' => e = .returned (.int .i64 1) ∧ w = w') := Lib.hid fun w h => compareF_gt f s w G.ff G.ss h
  have HC2 : Hid (∀ w, Ieee.single.order f s = some .lt → Calls Try.prog 91 #[.float .f32 f, .float .f32 s] w fun e w' => e = .returned (.int .i64 (-1)) ∧ w = w') := Lib.hid fun w h => compareF_lt f s w G.ff G.ss h
  clear G hn hd hm hk
  rcases GO.out with ho | ⟨ho, ⟨hfs, hlt⟩ | ⟨hfs, hlt⟩⟩
  · have h1 : (FloatKind.f32.format.order mx N == some .lt || FloatKind.f32.format.order mx N == some .eq) = true := by
      rcases ho with ho | ho
      · rw [show FloatKind.f32.format.order mx N = some .lt from ho]; rfl
      · rw [show FloatKind.f32.format.order mx N = some .eq from ho]; rfl
    clear ho HC1 HC2 GO GF GS
    go_enter Try.func81, Try.ntmps81
    go_wp2_with fail
    go_region_held3 (fun X => X.cell? ⟨w.heap.size, 0, none⟩ = some (.int .i64 (n : Int)) ∧ X.cell? ⟨w.heap.size, 1, none⟩ = some (.int .i64 (d : Int)) ∧ X.cell? ⟨w.heap.size + 1, 0, none⟩ = some (.int .i64 (m : Int)) ∧ X.cell? ⟨w.heap.size + 1, 1, none⟩ = some (.int .i64 (k : Int)) ∧ R2 w n d m k X) (first | exact r2Mk HR2.out | assumption | exact r2Keep (by assumption) (by assumption)) (first | (go_at_call 89; first | ((with_reducible refine (G1.out _).mono ?_); rintro e w1 ⟨rfl, hb1⟩) | ((with_reducible refine (G2.out _).mono ?_); rintro e w2 ⟨rfl, hb2⟩)))
    go_wp2_with (go_at_call 90; refine (SU.out _).mono ?_; rintro e w3 ⟨rfl, hb3⟩)
    have hx := Lib.hid (r2Of (by assumption))
    go_ret
    exact ⟨0, rfl, .inl rfl, hx.out.a.2.2.2.trans (hb3.mono hx.out.a.2.2.2.size)⟩
  · have h1 : (FloatKind.f32.format.order mx N == some .lt || FloatKind.f32.format.order mx N == some .eq) = false := by
      rw [show FloatKind.f32.format.order mx N = some .gt from ho]; rfl
    have HV : Hid (sgZ ((n : Int) * k - (m : Int) * d) = 1) := Lib.hid (by
      have : ((m * d : Nat) : Int) < ((n * k : Nat) : Int) := by omega
      rw [Int.natCast_mul, Int.natCast_mul] at this
      unfold sgZ
      rw [if_neg (by omega), if_pos (by omega)])
    have HC : Hid (∀ w, Calls Try.prog 91 #[.float .f32 f, .float .f32 s] w fun e w' => e = .returned (.int .i64 1) ∧ w = w') := Lib.hid fun w => HC1.out w hfs
    rw [HV.out]
    clear ho HC1 HC2 GO GF GS hfs hlt
    go_enter Try.func81, Try.ntmps81
    go_wp2_with fail
    go_region_held3 (fun X => X.cell? ⟨w.heap.size, 0, none⟩ = some (.int .i64 (n : Int)) ∧ X.cell? ⟨w.heap.size, 1, none⟩ = some (.int .i64 (d : Int)) ∧ X.cell? ⟨w.heap.size + 1, 0, none⟩ = some (.int .i64 (m : Int)) ∧ X.cell? ⟨w.heap.size + 1, 1, none⟩ = some (.int .i64 (k : Int)) ∧ R2 w n d m k X) (first | exact r2Mk HR2.out | assumption | exact r2Keep (by assumption) (by assumption)) (first | (go_at_call 89; first | ((with_reducible refine (G1.out _).mono ?_); rintro e w1 ⟨rfl, hb1⟩) | ((with_reducible refine (G2.out _).mono ?_); rintro e w2 ⟨rfl, hb2⟩)))
    go_wp2_with (first | (go_at_call 90; refine (SU.out _).mono ?_; rintro e w3 ⟨rfl, hb3⟩) | (go_at_call 91; refine (HC.out _).mono ?_; rintro e w4 ⟨rfl, rfl⟩))
    have hx := Lib.hid (r2Of (by assumption))
    go_ret
    exact ⟨1, rfl, .inr ⟨by decide, rfl⟩, hx.out.a.2.2.2.trans (hb3.mono hx.out.a.2.2.2.size)⟩
  · have h1 : (FloatKind.f32.format.order mx N == some .lt || FloatKind.f32.format.order mx N == some .eq) = false := by
      rw [show FloatKind.f32.format.order mx N = some .gt from ho]; rfl
    have HV : Hid (sgZ ((n : Int) * k - (m : Int) * d) = -1) := Lib.hid (by
      have : ((n * k : Nat) : Int) < ((m * d : Nat) : Int) := by omega
      rw [Int.natCast_mul, Int.natCast_mul] at this
      unfold sgZ
      rw [if_pos (by omega)])
    have HC : Hid (∀ w, Calls Try.prog 91 #[.float .f32 f, .float .f32 s] w fun e w' => e = .returned (.int .i64 (-1)) ∧ w = w') := Lib.hid fun w => HC2.out w hfs
    rw [HV.out]
    clear ho HC1 HC2 GO GF GS hfs hlt
    go_enter Try.func81, Try.ntmps81
    go_wp2_with fail
    go_region_held3 (fun X => X.cell? ⟨w.heap.size, 0, none⟩ = some (.int .i64 (n : Int)) ∧ X.cell? ⟨w.heap.size, 1, none⟩ = some (.int .i64 (d : Int)) ∧ X.cell? ⟨w.heap.size + 1, 0, none⟩ = some (.int .i64 (m : Int)) ∧ X.cell? ⟨w.heap.size + 1, 1, none⟩ = some (.int .i64 (k : Int)) ∧ R2 w n d m k X) (first | exact r2Mk HR2.out | assumption | exact r2Keep (by assumption) (by assumption)) (first | (go_at_call 89; first | ((with_reducible refine (G1.out _).mono ?_); rintro e w1 ⟨rfl, hb1⟩) | ((with_reducible refine (G2.out _).mono ?_); rintro e w2 ⟨rfl, hb2⟩)))
    go_wp2_with (first | (go_at_call 90; refine (SU.out _).mono ?_; rintro e w3 ⟨rfl, hb3⟩) | (go_at_call 91; refine (HC.out _).mono ?_; rintro e w4 ⟨rfl, rfl⟩))
    have hx := Lib.hid (r2Of (by assumption))
    go_ret
    exact ⟨-1, rfl, .inr ⟨by decide, rfl⟩, hx.out.a.2.2.2.trans (hb3.mono hx.out.a.2.2.2.size)⟩
set_option maxRecDepth 100000 in
set_option maxHeartbeats 1000000 in
theorem compareI_ret (n d m e : Int) (w : World) : Calls Try.prog 52 #[.agg #[.int .i64 n, .int .i64 d], .agg #[.int .i64 m, .int .i64 e]] w (Ret w (.tuple #[.int .i64 (ccmV n d m e), .bool (ccmOk n d m e)])) := by
  have H1 : Hid (∀ w, Calls Try.prog 80 #[.agg #[.int .i64 n, .int .i64 d]] w (Ret w (.bool (ruC n d)))) := Lib.hid fun w => isCompared_ret n d w
  have H2 : Hid (∀ w, Calls Try.prog 80 #[.agg #[.int .i64 m, .int .i64 e]] w (Ret w (.bool (ruC m e)))) := Lib.hid fun w => isCompared_ret m e w
  have HX := Lib.hid (R2.start w n d m e)
  rcases Bool.eq_false_or_eq_true (ruC n d) with a1 | a1
  · rcases Bool.eq_false_or_eq_true (ruC m e) with a2 | a2
    · have hok : ccmOk n d m e = true := by unfold ccmOk; rw [a1, a2]; rfl
      have e1 : ccmV n d m e = sgZ (n * e - m * d) := by unfold ccmV; rw [if_pos hok]
      have h1 := ruC_of a1
      have h2 := ruC_of a2
      rw [hok, e1]
      rw [a1] at H1
      rw [a2] at H2
      have m1 := mul_le_of' (x := n) (y := e) (A := 1000000000) (B := 1000000000) (by omega) (by omega)
      have m2 := mul_le_of' (x := m) (y := d) (A := 1000000000) (B := 1000000000) (by omega) (by omega)
      have HG : Hid (∀ w, Calls Try.prog 81 #[.agg #[.int .i64 n, .int .i64 d], .agg #[.int .i64 m, .int .i64 e]] w (OrdRet w (sgZ (n * e - m * d)))) := Lib.hid fun w => by
        obtain ⟨n', rfl⟩ := Int.eq_ofNat_of_zero_le h1.1.1
        obtain ⟨d', rfl⟩ := Int.eq_ofNat_of_zero_le (show 0 ≤ d by omega)
        obtain ⟨m', rfl⟩ := Int.eq_ofNat_of_zero_le h2.1.1
        obtain ⟨e', rfl⟩ := Int.eq_ofNat_of_zero_le (show 0 ≤ e by omega)
        exact guessed_ret n' d' m' e' w (by omega) (by omega) (by omega) (by omega)
      have HS : Hid (∀ w, Calls Try.prog 82 #[.int .i64 (n * e), .int .i64 (m * d)] w fun en w' => en = .returned (.int .i64 (sgZ (n * e - m * d))) ∧ w = w') := Lib.hid fun w => compareInt_any _ _ w
      clear hok e1 a1 a2 h1 h2
      generalize sgZ (n * e - m * d) = z at *
      go_enter Try.func52, Try.ntmps52
      go_wp2_with fail
      refine (H1.out _).mono ?_
      rintro en wa ⟨rfl, hba⟩
      have hx := HX.out.kept hba
      have r0 := hx.a.1; have r1 := hx.a.2.1; have r2 := hx.b.1; have r3 := hx.b.2.1
      have HX2 := Lib.hid hx
      clear hx hba
      go_wp2_with fail
      refine (H2.out _).mono ?_
      rintro en wb ⟨rfl, hbb⟩
      have hx := HX2.out.kept hbb
      clear r0 r1 r2 r3 hbb
      have r0 := hx.a.1; have r1 := hx.a.2.1; have r2 := hx.b.1; have r3 := hx.b.2.1
      have HX3 := Lib.hid hx
      clear hx
      go_wp2_with fail
      go_at_call 81
      refine (HG.out _).mono ?_
      rintro en wc ⟨o, rfl, ho, hbc⟩
      have hx := HX3.out.kept hbc
      clear r0 r1 r2 r3 hbc
      have r0 := hx.a.1; have r1 := hx.a.2.1; have r2 := hx.b.1; have r3 := hx.b.2.1
      have HX4 := Lib.hid hx
      clear hx
      rcases ho with rfl | ⟨hne, rfl⟩
      · go_wp2_with (go_at_call 82; refine (HS.out _).mono ?_; rintro en wd ⟨rfl, rfl⟩)
        go_ret2
        exact ⟨rfl, HX4.out.a.2.2.2⟩
      · have k0 : (o == 0) = false := beq_eq_false_iff_ne.2 hne
        go_wp2_with fail
        go_ret2
        exact ⟨rfl, HX4.out.a.2.2.2⟩
    · have hok : ccmOk n d m e = false := by unfold ccmOk; rw [a1, a2]; rfl
      have e1 : ccmV n d m e = 0 := by unfold ccmV; rw [hok]; rfl
      rw [hok, e1]
      rw [a1] at H1
      rw [a2] at H2
      clear hok e1 a1 a2
      go_enter Try.func52, Try.ntmps52
      go_wp2_with fail
      refine (H1.out _).mono ?_
      rintro en wa ⟨rfl, hba⟩
      have hx := HX.out.kept hba
      have r2 := hx.b.1
      have r3 := hx.b.2.1
      have HX2 := Lib.hid hx
      clear hx hba
      go_wp2_with fail
      refine (H2.out _).mono ?_
      rintro en wb ⟨rfl, hbb⟩
      have HX3 := Lib.hid (HX2.out.kept hbb)
      clear hbb
      go_wp2_with fail
      go_ret2
      exact ⟨rfl, HX3.out.a.2.2.2⟩
  · have hok : ccmOk n d m e = false := by unfold ccmOk; rw [a1]; rfl
    have e1 : ccmV n d m e = 0 := by unfold ccmV; rw [hok]; rfl
    rw [hok, e1]
    rw [a1] at H1
    clear hok e1 a1 H2
    go_enter Try.func52, Try.ntmps52
    go_wp2_with fail
    refine (H1.out _).mono ?_
    rintro en wa ⟨rfl, hba⟩
    have HX2 := Lib.hid (HX.out.kept hba)
    clear hba
    go_wp2_with fail
    go_ret2
    exact ⟨rfl, HX2.out.a.2.2.2⟩
end Go.Proofs.Ytfimcadnlhohlaa
