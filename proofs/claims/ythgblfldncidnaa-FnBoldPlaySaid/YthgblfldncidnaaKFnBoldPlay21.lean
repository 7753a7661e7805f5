/- Pack 21 of what FnBoldPlay needs: GridS, BpL. -/
import Derived.Test.YthgblfldncidnaaKFnBoldPlay20
import Derived.Deep.CutBlock
import Derived.Deep.DeepCutAuto
import Derived.Outline
/- What the law on grids draws, and its walk over the program's two contracts. -/
namespace Go.Proofs.Ythgblfldncidnaa
open Go.RowKit
set_option linter.unusedVariables false
theorem rowLit (w : World) (C : Array Value) (xs : List Int) (P : Int → Prop) (hC : C = (xs.map (Value.int .i64)).toArray) (hP : ∀ x ∈ xs, P x) : RowI (w.alloc (.cells C 3)) w.heap.size xs.length P := by
  subst hC
  refine ⟨by simp, fun j hj => ⟨xs.getD j 0, ?_, ?_⟩⟩
  · rw [List.getD_eq_getElem?_getD, List.getElem?_eq_getElem hj]
    exact hP _ (List.getElem_mem hj)
  · rw [List.getD_eq_getElem?_getD, List.getElem?_eq_getElem hj]
    simp [hj]
def Small (x : Int) : Prop := -1 ≤ x ∧ x ≤ 13
set_option maxHeartbeats 400000 in
theorem bigAny (A1 A2 : Option Addr) (l1 c1 l2 c2 : Nat) (w : World) (h1 : l1 ≤ maxLen) (h2 : l2 ≤ maxLen) :
    Calls Try.prog 4 #[.slice A1 l1 c1, .slice A2 l2 c2] w fun e w' => e = .returned (.bool (decide (1048576 < l1 + l2))) ∧ w = w' := by
  unfold maxLen at h1 h2
  by_cases hb : 1048576 < l1
  · have e : decide (1048576 < l1 + l2) = true := decide_eq_true (by omega)
    rw [e]
    go_enter Try.func4, Try.ntmps4
    go_wp2
    go_ret
    exact ⟨rfl, rfl⟩
  · have d1 : decide ((1048576 : Int) < (l1 : Int)) = false := decide_eq_false (by omega)
    by_cases hb2 : (1048576 : Int) - (l1 : Int) < (l2 : Int)
    · have e : decide (1048576 < l1 + l2) = true := decide_eq_true (by omega)
      rw [e]
      have d2 : decide ((1048576 : Int) - (l1 : Int) < (l2 : Int)) = true := decide_eq_true hb2
      go_enter Try.func4, Try.ntmps4
      go_wp2
      go_ret
      exact ⟨rfl, rfl⟩
    · have e : decide (1048576 < l1 + l2) = false := decide_eq_false (by omega)
      rw [e]
      have d2 : decide ((1048576 : Int) - (l1 : Int) < (l2 : Int)) = false := decide_eq_false hb2
      go_enter Try.func4, Try.ntmps4
      go_wp2
      go_ret
      exact ⟨rfl, rfl⟩
end Go.Proofs.Ythgblfldncidnaa

/- The law on bold play over the program's contracts. -/
namespace Go.Proofs.Ythgblfldncidnaa
open Go.RowKit
set_option linter.unusedVariables false
theorem bp_mul {x y A B : Int} (hx : 0 ≤ x ∧ x ≤ A) (hy : 0 ≤ y ∧ y ≤ B) : 0 ≤ x * y ∧ x * y ≤ A * B :=
  ⟨Int.mul_nonneg hx.1 hy.1, Int.le_trans (Int.mul_le_mul_of_nonneg_left hy.2 hx.1) (Int.mul_le_mul_of_nonneg_right hx.2 (by omega))⟩
/-- what bold play keeps, in cases -/
theorem bp_cases {i g n d P Q W V : Int} (ha : askB i g n d = true) (h : bpB i g n d P Q W V = true) :
    (0 ≤ P ∧ P ≤ Q ∧ Q ≤ 1000000000 ∧ 0 ≤ W ∧ W ≤ 1000000000 ∧ 0 ≤ V ∧ V ≤ 1000000000) ∧ (0 < n ∧ n < d ∧ d ≤ 6 ∧ g ≤ 12) ∧
    ((d = 2 * n ∧ W = P ∧ V = Q) ∨ (2 * n < d ∧ W * Q ≤ P * V) ∨ (d < 2 * n ∧ P * V ≤ W * Q)) ∧
    ((i = 0 ∧ P = 0 ∧ 0 < g) ∨ (0 < i ∧ g = i ∧ P = 1 ∧ Q = 1) ∨ (0 < i ∧ g = 2 * i ∧ P = n ∧ Q = d) ∨ (0 < i ∧ i < g ∧ 2 * i < g) ∨ (0 < i ∧ i < g ∧ g < 2 * i)) := by
  obtain ⟨I, G, N, D, rfl, rfl, rfl, rfl, h1, h2, h3, h4, h5, h6⟩ := ask_nat ha
  unfold bpB at h
  simp only [Bool.and_eq_true, decide_eq_true_eq] at h
  obtain ⟨b1, b2, b3, b4, b5, b6, b7, b8, b9, b10, b11⟩ := h
  refine ⟨by omega, by omega, ?_, ?_⟩
  · by_cases e : 2 * (N : Int) = D
    · rw [if_pos e, decide_eq_true_eq] at b8
      exact Or.inl ⟨by omega, by omega, by omega⟩
    · rw [if_neg e] at b8
      by_cases e2 : 2 * (N : Int) < D
      · rw [if_pos e2, decide_eq_true_eq] at b8
        exact Or.inr (Or.inl ⟨e2, b8⟩)
      · rw [if_neg e2, decide_eq_true_eq] at b8
        exact Or.inr (Or.inr ⟨by omega, b8⟩)
  · by_cases e0 : (I : Int) = 0
    · rw [if_pos e0, decide_eq_true_eq] at b11
      exact Or.inl ⟨e0, b11, by omega⟩
    · by_cases e1 : (I : Int) = G
      · rw [if_pos e1, decide_eq_true_eq] at b10
        exact Or.inr (Or.inl ⟨by omega, by omega, b10.1, b10.2⟩)
      · by_cases e2 : 2 * (I : Int) = G
        · rw [if_pos e2, decide_eq_true_eq] at b9
          exact Or.inr (Or.inr (Or.inl ⟨by omega, by omega, b9.1, b9.2⟩))
        · by_cases e3 : 2 * (I : Int) < G
          · exact Or.inr (Or.inr (Or.inr (Or.inl ⟨by omega, by omega, e3⟩)))
          · exact Or.inr (Or.inr (Or.inr (Or.inr ⟨by omega, by omega, by omega⟩)))
structure BpAll (w : World) (b7 b8 : Nat) (n d P Q W V : Int) (X : World) : Prop where
  p : QB b8 P Q (X.alloc (.cells #[.int .i64 W, .int .i64 V] 25))
  q : QB b7 n d (X.alloc (.cells #[.int .i64 W, .int .i64 V] 25))
  r : QB X.heap.size W V (X.alloc (.cells #[.int .i64 W, .int .i64 V] 25))
  l : Below w.heap.size w (X.alloc (.cells #[.int .i64 W, .int .i64 V] 25))
theorem BpAll.mk' {w X Y : World} {b7 b8 : Nat} {n d P Q W V : Int} (h1 : QB b8 P Q X) (h2 : QB b7 n d X) (h3 : Below w.heap.size w X) (hb : Below X.heap.size X Y) : BpAll w b7 b8 n d P Q W V Y :=
  ⟨(h1.below hb).below ((Below.refl _ _).alloc (Nat.le_refl _) _), (h2.below hb).below ((Below.refl _ _).alloc (Nat.le_refl _) _), QB.new Y W V _, (h3.trans (hb.mono h3.size)).alloc (Nat.le_trans h3.size hb.size) _⟩
set_option maxRecDepth 100000 in
set_option maxHeartbeats 8000000 in
theorem wBold (hB : Hid (∀ (i g n d : Int) (w : World), Calls Try.prog 6 #[.int .i64 i, .int .i64 g, .agg #[.int .i64 n, .int .i64 d]] w (Ret w (ratRet (bcP i g n d) (bcQ i g n d) (bcOk i g n d)))))
    (hW : Hid (∀ (i g n d : Int) (w : World), Calls Try.prog 8 #[.int .i64 i, .int .i64 g, .agg #[.int .i64 n, .int .i64 d]] w (Ret w (ratRet (waP i g n d) (waQ i g n d) (askB i g n d)))))
    (hF : Hid (∀ (i j g : Int) (w : World), Calls Try.prog 10 #[.int .i64 i, .int .i64 j, .int .i64 g] w (Ret w (ratRet (fvP i j g) (fvQ i j g) (fvOk i j g)))))
    (hM : Hid (∀ (i g n d : Int) (w : World), Calls Try.prog 13 #[.int .i64 i, .int .i64 g, .agg #[.int .i64 n, .int .i64 d]] w (Ret w (ratRet (mgP i g n d) (mgQ i g n d) (askB i g n d)))))
    (a0 : Option Addr) (l0 c0 : Nat) (a1 : Option Addr) (l1 c1 : Nat) (w : World) (h0 : IsCode w a0 l0 c0) (h1 : IsCode w a1 l1 c1) :
    Calls Try.prog 3 #[.slice a0 l0 c0, .slice a1 l1 c1] w fun e w' => e = .returned (.bool true) ∧ Below w.heap.size w w' := by
  have HB := Lib.hid (bigAny a0 a1 l0 c0 l1 c1 w h0.2 h1.2)
  by_cases hbig : 1048576 < l0 + l1
  · rw [decide_eq_true hbig] at HB
    clear h0 h1
    go_enter Try.func3, Try.ntmps3
    go_wp2_with (go_at_call 4; refine HB.out.mono ?_; rintro e w' ⟨rfl, rfl⟩)
    go_ret
    exact ⟨rfl, Below.refl _ _⟩
  rw [decide_eq_false hbig] at HB
  have HD0 := Lib.hid (drawBc_any w a0 l0 c0 h0.1 (by omega))
  have H1 := Lib.hid h1
  clear h0 h1
  go_enter Try.func3, Try.ntmps3
  go_wp2_with (go_at_call 4; refine HB.out.mono ?_; rintro e w' ⟨rfl, rfl⟩)
  refine HD0.out.mono ?_
  rintro e w1 ⟨i, g, n, d, rfl, hb1⟩
  have Q1 := Lib.hid (QB.new w1 n d 25)
  have HB1 := Lib.hid (hb1.alloc hb1.size (.cells #[.int .i64 n, .int .i64 d] 25))
  clear hb1 HB HD0
  have q0 := Q1.out.c0
  have q1 := Q1.out.c1
  go_upto_if 60 with (first | (go_at_call 6; refine (hB.out _ _ _ _ _).mono ?_; rintro e w2 ⟨rfl, hb2⟩; have Q2 := Lib.hid ((Q1.out.below hb2).below ((Below.refl _ _).alloc (Nat.le_refl _) (.cells #[.int .i64 (bcP i g n d), .int .i64 (bcQ i g n d)] 25))); clear q0 q1; have q0 := Q2.out.c0; have q1 := Q2.out.c1; have P2 := Lib.hid (QB.new w2 (bcP i g n d) (bcQ i g n d) 25); have lt2 := Q2.out.lt; have HB2 := Lib.hid ((HB1.out.trans (hb2.mono HB1.out.size)).alloc (Nat.le_trans HB1.out.size hb2.size) (.cells #[.int .i64 (bcP i g n d), .int .i64 (bcQ i g n d)] 25)); clear hb2) | (go_at_call 7; refine (specBold_ret _ _ _ _ _).mono ?_; rintro e w3 ⟨rfl, hb3⟩; have P3 := Lib.hid (P2.out.below hb3); have Q3 := Lib.hid (Q2.out.below hb3); have HB3 := Lib.hid (HB2.out.trans (hb3.mono HB2.out.size)); have p0 := P3.out.c0; have p1 := P3.out.c1; have plt := P3.out.lt; clear hb3 q0 q1))
  have HOK : Hid (bcOk i g n d = true → askB i g n d = true ∧ bpB i g n d (bcP i g n d) (bcQ i g n d) (waP i g n d) (waQ i g n d) = true) := Lib.hid fun h => bp_of h
  clear lt2 HB2 P2 Q2 p0 p1 plt
  have q0 := Q3.out.c0
  have q1 := Q3.out.c1
  have qlt := Q3.out.lt
  have HB3' := Lib.hid (HB3.out.alloc HB3.out.size (.cells #[.int .i64 (bcP i g n d), .int .i64 (bcQ i g n d)] 25))
  have P3' := Lib.hid (P3.out.below ((Below.refl _ _).alloc (Nat.le_refl _) (.cells #[.int .i64 (bcP i g n d), .int .i64 (bcQ i g n d)] 25)))
  have Q3' := Lib.hid (Q3.out.below ((Below.refl _ _).alloc (Nat.le_refl _) (.cells #[.int .i64 (bcP i g n d), .int .i64 (bcQ i g n d)] 25)))
  clear P3 Q3 HB3
  generalize bcP i g n d = P at *
  generalize bcQ i g n d = Q at *
  generalize bcOk i g n d = ok at *
  go_cut [4] from 5 (fun s wx => s = .bool false ∧ Below w.heap.size w wx)
  case first =>
    cases ok with
    | false =>
      go_wp2_with fail
      go_meet
      exact ⟨rfl, HB3'.out⟩
    | true =>
      obtain ⟨ha, hb⟩ := HOK.out rfl
      have HWC : Hid (Calls Try.prog 8 #[.int .i64 i, .int .i64 g, .agg #[.int .i64 n, .int .i64 d]] (w3.alloc (.cells #[.int .i64 P, .int .i64 Q] 25)) (fun e w4 => e = .returned (ratRet (waP i g n d) (waQ i g n d) true) ∧ BpAll w w1.heap.size w2.heap.size n d P Q (waP i g n d) (waQ i g n d) w4)) := Lib.hid <| by
        refine (hW.out i g n d _).mono ?_
        rintro e w4 ⟨rfl, hb4⟩
        refine ⟨by rw [ha], ?_⟩
        exact BpAll.mk' P3'.out Q3'.out HB3'.out hb4
      generalize waP i g n d = W at *
      generalize waQ i g n d = V at *
      obtain ⟨⟨c1, c2, c3, c4, c5, c6, c7⟩, ⟨c8, c9, c10, c11⟩, hsw, hcs⟩ := bp_cases ha hb
      have m1 := bp_mul (x := P) (y := V) (A := 1000000000) (B := 1000000000) (by omega) (by omega)
      have m2 := bp_mul (x := W) (y := Q) (A := 1000000000) (B := 1000000000) (by omega) (by omega)
      clear ha hb HOK P3' Q3'
      go_upto_block 0 with (go_at_call 8; refine HWC.out.mono ?_; rintro e w4 ⟨rfl, hx⟩; have k0 := hx.p.c0; have k1 := hx.p.c1; have k2 := hx.q.c0; have k3 := hx.q.c1; have k4 := hx.r.c0; have k5 := hx.r.c1; have k6 := hx.p.lt; have k7 := hx.q.lt; have HX := Lib.hid hx; clear hx q0 q1 qlt)
      go_cut [4] from 82 to 120 (fun s wx => s = .bool false ∧ wx = w4.alloc (.cells #[.int .i64 W, .int .i64 V] 25))
      case first =>
        clear hcs
        rcases hsw with ⟨e1, e2, e3⟩ | ⟨e1, e2⟩ | ⟨e1, e2⟩
        · subst e1 e2 e3
          go_wp2_with fail
          go_meet
          exact ⟨rfl, rfl⟩
        · go_wp2_with fail
          go_meet
          exact ⟨rfl, rfl⟩
        · go_wp2_with fail
          go_meet
          exact ⟨rfl, rfl⟩
      case rest =>
        obtain ⟨rfl, rfl⟩ := hcut
        clear hsw m1 m2
        rcases hcs with ⟨f1, f2, f3⟩ | ⟨f1, f2, f3, f4⟩ | ⟨f1, f2, f3, f4⟩ | ⟨f1, f2, f3⟩ | ⟨f1, f2, f3⟩
        · subst f1 f2
          go_wp2_with fail
          go_meet
          exact ⟨rfl, HX.out.l⟩
        · subst f2 f3 f4
          go_wp2_with fail
          go_meet
          exact ⟨rfl, HX.out.l⟩
        · subst f2 f3 f4
          go_wp2_with fail
          go_meet
          exact ⟨rfl, HX.out.l⟩
        · skip
          go_wp2_with fail
          go_meet
          exact ⟨rfl, HX.out.l⟩
        · skip
          go_wp2_with fail
          go_meet
          exact ⟨rfl, HX.out.l⟩
  case rest =>
    obtain ⟨rfl, hbw⟩ := hcut
    have HD1 := Lib.hid (drawFv_any wc a1 l1 c1 (H1.out.1.below hbw) (by omega))
    have HBW := Lib.hid hbw
    clear hbw HB3' P3' Q3' q0 q1 qlt HOK HB1 Q1
    go_wp2_with fail
    refine HD1.out.mono ?_
    rintro e w4 ⟨a, b, n, rfl, hb4⟩
    have HB4 := Lib.hid (HBW.out.trans (hb4.mono HBW.out.size))
    clear hb4 HD1
    go_wp2_with fail
    refine (hF.out a b n _).mono ?_
    rintro e w5 ⟨rfl, hb5⟩
    have HB5 := Lib.hid ((HB4.out.trans (hb5.mono HB4.out.size)).alloc (Nat.le_trans HB4.out.size hb5.size) (.cells #[.int .i64 (fvP a b n), .int .i64 (fvQ a b n)] 25))
    have P5 := Lib.hid (QB.new w5 (fvP a b n) (fvQ a b n) 25)
    have HFO : Hid (fvOk a b n = true → fvOk b a n = true ∧ fvP b a n = fvP a b n ∧ fvQ b a n = fvQ a b n ∧ 1 ≤ fvP a b n) := Lib.hid fun h => ⟨(fv_of h).1, (fv_of h).2.1, (fv_of h).2.2.1, (fv_of h).2.2.2.1⟩
    have HS := Lib.hid (specFair_ret a b n (w5.alloc (.cells #[.int .i64 (fvP a b n), .int .i64 (fvQ a b n)] 25)))
    clear hb5
    generalize fvP a b n = P at *
    generalize fvQ a b n = Q at *
    generalize hok : fvOk a b n = ok at *
    have HK := Lib.hid hok
    clear hok
    go_wp2_with fail
    refine HS.out.mono ?_
    rintro e w6 ⟨rfl, hb6⟩
    have HB6 := Lib.hid ((HB5.out.trans (hb6.mono HB5.out.size)).alloc (Nat.le_trans HB5.out.size hb6.size) (.cells #[.int .i64 P, .int .i64 Q] 25))
    have P6 := Lib.hid (P5.out.below hb6)
    have k0 := P6.out.c0
    have k1 := P6.out.c1
    have k2 := P6.out.lt
    clear hb6 HS P5 HB5 HB4 HBW
    cases ok with
    | false =>
      go_wp2_with fail
      go_ret
      exact ⟨rfl, HB6.out⟩
    | true =>
      obtain ⟨o1, o2, o3, o4⟩ := HFO.out rfl
      have HT : Hid (∀ w, Calls Try.prog 10 #[.int .i64 b, .int .i64 a, .int .i64 n] w (Ret w (ratRet P Q true))) := Lib.hid fun w => by
        have := hF.out b a n w
        rwa [o1, o2, o3] at this
      clear o1 o2 o3 HFO
      go_wp2_with fail
      refine (HT.out _).mono ?_
      rintro e w7 ⟨rfl, hb7⟩
      have P7 := Lib.hid ((P6.out.below ((Below.refl _ _).alloc (Nat.le_refl _) (.cells #[.int .i64 P, .int .i64 Q] 25))).below hb7)
      have HB7 := Lib.hid ((HB6.out.trans (hb7.mono HB6.out.size)).alloc (Nat.le_trans HB6.out.size hb7.size) (.cells #[.int .i64 P, .int .i64 Q] 25))
      clear hb7 k0 k1 k2 P6 HB6 HT
      have k0 := P7.out.c0
      have k1 := P7.out.c1
      have k2 := P7.out.lt
      have hn2 : 2 ≤ n ∧ n ≤ 12 := by
        obtain ⟨A, B, N, rfl, rfl, rfl, r1, r2, r3, r4, r5⟩ := fvOk_nat HK.out
        omega
      go_wp2_with fail
      clear k0 k1 k2
      go_loopw [23, 24] (fun sm j wr => ∃ k : Nat, (k : Int) ≤ n - 1 ∧ sm = .int .i64 (fvS a n k) ∧ j = .int .i64 ((k : Int) + 1) ∧ Below w.heap.size w wr) (fun _ j _ => (n - intOf j).toNat)
      case atStart => exact ⟨0, by omega, by rfl, by go_num, HB7.out⟩
      case round =>
        obtain ⟨k, hk, rfl, rfl, hbr⟩ := hrel
        have HBR := Lib.hid hbr
        clear hbr HB7 P7
        have hbd := fvS_bd HK.out k hk
        by_cases hlt : (k : Int) + 1 < n
        · obtain ⟨_, _, _, f1, f2, f3, f4, f5, f6⟩ := fv_of (fv_row HK.out (j := (k : Int) + 1) (by omega))
          have HFJ : Hid (∀ w, Calls Try.prog 10 #[.int .i64 a, .int .i64 ((k : Int) + 1), .int .i64 n] w (Ret w (ratRet (fvP a ((k : Int) + 1) n) (fvQ a ((k : Int) + 1) n) true))) := Lib.hid fun w => by
            have := hF.out a ((k : Int) + 1) n w
            rwa [fv_row HK.out (j := (k : Int) + 1) (by omega)] at this
          have HY : Hid (∀ w, Calls Try.prog 12 #[.agg #[.int .i64 (fvP a ((k : Int) + 1) n), .int .i64 (fvQ a ((k : Int) + 1) n)], .int .i64 n] w (Ret w (.int .i64 (ytN (fvP a ((k : Int) + 1) n) (fvQ a ((k : Int) + 1) n) n)))) := Lib.hid fun w => yTimes_any _ _ n w (by omega) (by omega) (by omega)
          have HS1 : Hid (fvS a n (k + 1) = fvS a n k + ytN (fvP a ((k : Int) + 1) n) (fvQ a ((k : Int) + 1) n) n) := Lib.hid rfl
          generalize ytN (fvP a ((k : Int) + 1) n) (fvQ a ((k : Int) + 1) n) n = y at *
          generalize fvP a ((k : Int) + 1) n = p at *
          generalize fvQ a ((k : Int) + 1) n = q at *
          generalize fvS a n k = sm at *
          have g1 : ¬ y < 0 := by omega
          go_wp2_with fail
          refine (HFJ.out _).mono ?_
          rintro e w8 ⟨rfl, hb8⟩
          have P8 := Lib.hid (QB.new w8 p q 25)
          have HB8 := Lib.hid ((HBR.out.trans (hb8.mono HBR.out.size)).alloc (Nat.le_trans HBR.out.size hb8.size) (.cells #[.int .i64 p, .int .i64 q] 25))
          clear hb8
          go_wp2_with fail
          refine (HY.out _).mono ?_
          rintro e w9 ⟨rfl, hb9⟩
          have P9 := Lib.hid (P8.out.below hb9)
          have HB9 := Lib.hid (HB8.out.trans (hb9.mono HB8.out.size))
          clear hb9
          have k0 := P9.out.c0
          have k1 := P9.out.c1
          have k2 := P9.out.lt
          go_wp2_with fail
          refine (HY.out _).mono ?_
          rintro e w10 ⟨rfl, hb10⟩
          have HB10 := Lib.hid (HB9.out.trans (hb10.mono HB9.out.size))
          clear hb10 k0 k1 k2
          go_wp2_with fail
          go_round
          case rel => exact ⟨k + 1, by omega, by rw [HS1.out], by go_num, HB10.out⟩
          case measure => simp [intOf]; omega
        · obtain ⟨m1, m2, m3, m4, m5⟩ := mn_of HK.out
          have hkn : k = (n - 1).toNat := by omega
          have HMG : Hid (∀ w, Calls Try.prog 13 #[.int .i64 a, .int .i64 n, .agg #[.int .i64 1, .int .i64 2]] w (Ret w (ratRet (mgP a n 1 2) 1 true))) := Lib.hid fun w => by
            have := hM.out a n 1 2 w
            rwa [m1, m2] at this
          rw [← hkn] at m5
          generalize fvS a n k = sm at *
          generalize mgP a n 1 2 = m at *
          have hmb := bp_mul (x := m) (y := n) (A := 1000) (B := 12) (by omega) (by omega)
          subst m5
          clear m1 m2 hkn
          go_wp2_with fail
          refine (HMG.out _).mono ?_
          rintro e w8 ⟨rfl, hb8⟩
          have HB8 := Lib.hid ((HBR.out.trans (hb8.mono HBR.out.size)).alloc (Nat.le_trans HBR.out.size hb8.size) (.cells #[.int .i64 m, .int .i64 1] 25))
          clear hb8
          go_wp2_with fail
          go_ret
          exact ⟨by simp, HB8.out⟩
end Go.Proofs.Ythgblfldncidnaa
