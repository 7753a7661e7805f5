/- Pack 32 of what FnFansAndCubes needs: EndI, CwyI, WmI. -/
import Derived.Test.YtmfcknlpbliehabKFnFansAndCubes31
/- The program's areEnds. -/
namespace Go.Proofs.Ytmfcknlpbliehab
open Go.RowKit
set_option linter.unusedVariables false
theorem inBd_if5 {a lo hi : Int} (h : inBd lo hi a = true) : lo ≤ a ∧ a ≤ hi := by unfold inBd at h; simpa only [Bool.and_eq_true, decide_eq_true_eq] using h
set_option maxRecDepth 100000 in
set_option maxHeartbeats 2000000 in
theorem areEnds_any (v1 v2 : Value) (n m : Nat) (xs ys : List Int) (w : World) (h1 : RCels w v1 n xs) (h2 : RCels w v2 m ys) (hn : n ≤ 1048576) (hm : m ≤ 1048576) :
    Calls Try.prog 68 #[v1, v2] w (Ret w (.bool (gdB n xs m ys))) := by
  have HI : Hid (∀ (X : World) (g : Nat), g = X.heap.size → Calls Try.prog 50 #[.int .i64 1, .int .i64 4, .slice (some ⟨g, 0, none⟩) 1 1] (X.alloc (.cells #[.int .i64 (n : Int)] 3)) fun e w' => e = .returned (.bool (inBd 1 4 (n : Int))) ∧ Below X.heap.size X w') := Lib.hid fun X g hg => wth_1 1 4 (n : Int) X g hg
  have HC : Hid (∀ x y w, Calls Try.prog 74 #[celV x y] w (Ret w (.bool (cellB x y)))) := Lib.hid isCellI_ret
  obtain ⟨A1, p1, rfl⟩ := h1.shape
  obtain ⟨A2, p2, rfl⟩ := h2.shape
  rcases Bool.eq_false_or_eq_true (inBd 1 4 (n : Int)) with a1 | a1
  case inr =>
    have e1 : gdB n xs m ys = false := by unfold gdB; rw [a1]; rfl
    rw [e1]
    rw [a1] at HI
    clear e1 a1 h1 h2
    go_enter Try.func68, Try.ntmps68
    go_wp2_with (go_at_call 50; refine (HI.out _ _ rfl).mono ?_; rintro e w1 ⟨rfl, hb1⟩)
    go_ret
    exact ⟨rfl, hb1⟩
  have hn4 := inBd_if5 a1
  by_cases hmn : m = n
  case neg =>
    have e1 : gdB n xs m ys = false := by unfold gdB; rw [show (m == n) = false from beq_eq_false_iff_ne.2 hmn, Bool.and_false]; rfl
    have q1 : ((m : Int) != (n : Int)) = true := by simpa using fun h : (m : Int) = (n : Int) => hmn (by omega)
    rw [e1]
    rw [a1] at HI
    clear e1 a1 h1 h2
    go_enter Try.func68, Try.ntmps68
    go_wp2_with (go_at_call 50; refine (HI.out _ _ rfl).mono ?_; rintro e w1 ⟨rfl, hb1⟩)
    go_ret
    exact ⟨rfl, hb1⟩
  subst hmn
  have HY : Hid ((∀ k, k < m → (gdC xs k && gdC ys k) = true) → gdB m xs m ys = true) := Lib.hid (gdB_yes a1)
  have HN : Hid (∀ k, k < m → (gdC xs k && gdC ys k) = false → gdB m xs m ys = false) := Lib.hid fun k hk h => gdB_no hk h
  have HG : Hid (Gd w (.slice A1 m p1) (.slice A2 m p2) m m xs ys w) := Lib.hid ⟨h1, h2, Below.refl _ _⟩
  obtain ⟨g1, o1, c1, e1, _, _⟩ := h1.cells (by omega)
  obtain ⟨g2, o2, c2, e2, _, _⟩ := h2.cells (by omega)
  injection e1 with e1 _ e3
  injection e2 with e2 _ e4
  subst e1 e2 e3 e4
  rw [a1] at HI
  clear a1 h1 h2
  generalize gdB m xs m ys = T at *
  go_enter Try.func68, Try.ntmps68
  go_wp2_with (go_at_call 50; refine (HI.out _ _ rfl).mono ?_; rintro e w1 ⟨rfl, hb1⟩; have HGI := Lib.hid (HG.out.kept hb1); clear hb1)
  go_loopw [20] (fun i wr => ∃ k : Nat, k ≤ m ∧ i = .int .i64 (k : Int) ∧ (∀ j, j < k → (gdC xs j && gdC ys j) = true) ∧ Gd w (.slice (some ⟨g1, o1, none⟩) m p1) (.slice (some ⟨g2, o2, none⟩) m p2) m m xs ys wr) (fun i _ => m - (intOf i).toNat)
  case atStart => exact ⟨0, Nat.zero_le _, rfl, fun j hj => absurd hj (by omega), HGI.out⟩
  case round =>
    obtain ⟨k, hk, rfl, hall, hgd⟩ := hrel
    clear HG HGI
    by_cases hlt : k < m
    · have CL : ∀ (v : Value) (zs : List Int) (g o c : Nat) (X : World), RCels X (.slice (some ⟨g, o, none⟩) m c) m zs → X.cell? ⟨g, o + k * 2, none⟩ = some (.int .i64 (zs.getD (k * 2) 0)) ∧ X.cell? ⟨g, o + k * 2 + 1, none⟩ = some (.int .i64 (zs.getD (k * 2 + 1) 0)) := fun v zs g o c X h => by
        obtain ⟨g', o', c', e, _, hc⟩ := h.cells (by omega)
        injection e with e _ e3
        injection e with e
        injection e with e1 e2
        subst e1 e2
        exact ⟨hc (k * 2) (by omega), hc (k * 2 + 1) (by omega)⟩
      have HCL := Lib.hid CL
      have i1 : (k : Int) < (m : Int) := by omega
      have i2 : 0 ≤ (k : Int) := by omega
      have c0 := (CL (.bool true) _ _ _ _ _ hgd.a).1
      have c1 := (CL (.bool true) _ _ _ _ _ hgd.a).2
      have HX : Hid (gdC xs k = cellB (xs.getD (k * 2) 0) (xs.getD (k * 2 + 1) 0)) := Lib.hid rfl
      have HYY : Hid (gdC ys k = cellB (ys.getD (k * 2) 0) (ys.getD (k * 2 + 1) 0)) := Lib.hid rfl
      have HGD := Lib.hid hgd
      have HALL := Lib.hid hall
      clear hgd hall CL
      generalize xs.getD (k * 2) 0 = x0 at *
      generalize xs.getD (k * 2 + 1) 0 = x1 at *
      have HG1 := HGD
      rcases Bool.eq_false_or_eq_true (cellB x0 x1) with b1 | b1
      · have HC1 : Hid (∀ w, Calls Try.prog 74 #[celV x0 x1] w (Ret w (.bool true))) := Lib.hid fun w => b1 ▸ HC.out x0 x1 w
        go_wp2_with fail
        refine (HC1.out _).mono ?_
        rintro e w1 ⟨rfl, hb1⟩
        have hgd := HG1.out.kept hb1
        have d0 := (HCL.out (.bool true) _ _ _ _ _ hgd.b).1
        have d1 := (HCL.out (.bool true) _ _ _ _ _ hgd.b).2
        have HG2 := Lib.hid hgd
        clear hgd hb1 c0 c1
        generalize ys.getD (k * 2) 0 = y0 at *
        generalize ys.getD (k * 2 + 1) 0 = y1 at *
        rcases Bool.eq_false_or_eq_true (cellB y0 y1) with b2 | b2
        · have HC2 : Hid (∀ w, Calls Try.prog 74 #[celV y0 y1] w (Ret w (.bool true))) := Lib.hid fun w => b2 ▸ HC.out y0 y1 w
          have HB : Hid ((gdC xs k && gdC ys k) = true) := Lib.hid (by rw [HX.out, HYY.out, b1, b2]; rfl)
          clear b1 b2
          go_wp2_with fail
          refine (HC2.out _).mono ?_
          rintro e w2 ⟨rfl, hb2⟩
          have HG3 := Lib.hid (HG2.out.kept hb2)
          clear hb2
          go_wp2_with fail
          go_roundw
          case rel => exact ⟨k + 1, by omega, by go_num, fun j hj => by
            rcases Nat.lt_or_ge j k with h | h
            · exact HALL.out j h
            · obtain rfl : j = k := by omega
              exact HB.out, HG3.out⟩
          case measure => first | (simp [intOf]; done) | (simp [intOf]; omega)
        · have HC2 : Hid (∀ w, Calls Try.prog 74 #[celV y0 y1] w (Ret w (.bool false))) := Lib.hid fun w => b2 ▸ HC.out y0 y1 w
          have HT := Lib.hid (HN.out k hlt (by rw [HX.out, HYY.out, b1, b2]; rfl))
          clear b1 b2
          go_wp2_with fail
          refine (HC2.out _).mono ?_
          rintro e w2 ⟨rfl, hb2⟩
          have HG3 := Lib.hid (HG2.out.kept hb2)
          clear hb2
          go_wp2_with fail
          go_ret
          exact ⟨by rw [HT.out]; rfl, HG3.out.below⟩
      · have HC1 : Hid (∀ w, Calls Try.prog 74 #[celV x0 x1] w (Ret w (.bool false))) := Lib.hid fun w => b1 ▸ HC.out x0 x1 w
        have HT := Lib.hid (HN.out k hlt (by rw [HX.out, b1]; rfl))
        clear b1
        go_wp2_with fail
        refine (HC1.out _).mono ?_
        rintro e w1 ⟨rfl, hb1⟩
        have HG2 := Lib.hid (HG1.out.kept hb1)
        clear hb1
        go_wp2_with fail
        go_ret
        exact ⟨by rw [HT.out]; rfl, HG2.out.below⟩
    · obtain rfl : k = m := by omega
      have HT := Lib.hid (HY.out hall)
      have HB := Lib.hid hgd.below
      clear hall hgd
      go_wp2_with fail
      go_ret
      exact ⟨by rw [HT.out]; rfl, HB.out⟩
end Go.Proofs.Ytmfcknlpbliehab

/- The program's CountWays. -/
namespace Go.Proofs.Ytmfcknlpbliehab
open Go.RowKit
set_option linter.unusedVariables false
theorem cnt_nc {x y u v : Int} (h1 : cellB x y = true) (h2 : cellB u v = true) : cntV (v - y) (u - x) = ncV x y u v := by
  have a := (cellB_iff _ _).1 h1
  have b := (cellB_iff _ _).1 h2
  unfold cntV ncV
  by_cases hx : u - x < 0 ∨ v - y < 0
  · rw [if_pos hx]
    have : cntOk (v - y) (u - x) = false := by
      unfold cntOk
      rcases hx with h | h
      · rw [show decide (0 ≤ u - x) = false from decide_eq_false (by omega)]
        simp
      · rw [show decide (0 ≤ v - y) = false from decide_eq_false (by omega)]
        simp
    rw [this]
    rfl
  · rw [if_neg hx]
    have : cntOk (v - y) (u - x) = true := by
      unfold cntOk
      rw [decide_eq_true (show 0 ≤ v - y by omega), decide_eq_true (show 0 ≤ u - x by omega), decide_eq_true (show v - y + (u - x) ≤ 40 by omega)]
      rfl
    rw [this, if_pos rfl]
    obtain ⟨p, hp⟩ := Int.eq_ofNat_of_zero_le (show 0 ≤ v - y by omega)
    obtain ⟨q, hq⟩ := Int.eq_ofNat_of_zero_le (show 0 ≤ u - x by omega)
    rw [hp, hq]
    have e1 := chZ_nat (p + q) p
    have e2 := chZ_nat (q + p) q
    rw [Int.natCast_add] at e1 e2
    exact e1.trans ((by rw [chs_symm p q, Nat.add_comm p q] : ((chs (p + q) p : Nat) : Int) = ((chs (q + p) q : Nat) : Int)).trans e2.symm)
set_option maxRecDepth 100000 in
set_option maxHeartbeats 1000000 in
theorem countWaysI_ret (x y u v : Int) (w : World) : Calls Try.prog 69 #[celV x y, celV u v] w (Ret w (.tuple #[.int .i64 (cyV x y u v), .bool (cyOk x y u v)])) := by
  have HX := Lib.hid (C2.start w x y u v)
  have c0 := HX.out.a0
  have c1 := HX.out.a1
  have H1 : Hid (∀ w, Calls Try.prog 74 #[celV x y] w (Ret w (.bool (cellB x y)))) := Lib.hid fun w => isCellI_ret x y w
  have H2 : Hid (∀ w, Calls Try.prog 74 #[celV u v] w (Ret w (.bool (cellB u v)))) := Lib.hid fun w => isCellI_ret u v w
  rcases Bool.eq_false_or_eq_true (cellB x y) with a1 | a1
  · rcases Bool.eq_false_or_eq_true (cellB u v) with a2 | a2
    · have hok : cyOk x y u v = true := by unfold cyOk; rw [a1, a2]; rfl
      have e1 : cyV x y u v = ncV x y u v := by unfold cyV; rw [if_pos hok]
      have h1 := (cellB_iff _ _).1 a1
      have h2 := (cellB_iff _ _).1 a2
      have HN : Hid (∀ w, Calls Try.prog 67 #[.int .i64 (v - y), .int .i64 (u - x)] w fun e w' => e = .returned (.tuple #[.int .i64 (ncV x y u v), .bool (cntOk (v - y) (u - x))]) ∧ w = w') := Lib.hid fun w => by rw [← cnt_nc a1 a2]; exact count_ret _ _ w
      have k1 := IntWalk.i64_in (u - x) (by omega)
      have k2 := IntWalk.i64_in (v - y) (by omega)
      rw [e1, hok]
      rw [a1] at H1
      rw [a2] at H2
      generalize ncV x y u v = z at *
      generalize cntOk (v - y) (u - x) = bb at *
      clear hok e1 a1 a2 h1 h2
      go_enter Try.func69, Try.ntmps69
      go_wp2_with fail
      refine (H1.out _).mono ?_
      rintro e w1 ⟨rfl, hb1⟩
      have hx := HX.out.kept hb1
      have r2 := hx.b0
      have r3 := hx.b1
      have HX1 := Lib.hid hx
      clear hx hb1
      go_wp2_with fail
      refine (H2.out _).mono ?_
      rintro e w2 ⟨rfl, hb2⟩
      have hx := HX1.out.kept hb2
      clear r2 r3
      have r0 := hx.a0
      have r1 := hx.a1
      have r2 := hx.b0
      have r3 := hx.b1
      have HX2 := Lib.hid hx
      clear hx hb2
      go_wp2_with fail
      refine (HN.out _).mono ?_
      rintro e w3 ⟨rfl, rfl⟩
      go_wp2_with fail
      go_ret2
      exact ⟨rfl, HX2.out.below⟩
    · have hok : cyOk x y u v = false := by unfold cyOk; rw [a1, a2]; rfl
      have e1 : cyV x y u v = 0 := by simp [cyV, hok]
      rw [e1, hok]
      rw [a1] at H1
      rw [a2] at H2
      clear hok e1 a1 a2
      go_enter Try.func69, Try.ntmps69
      go_wp2_with fail
      refine (H1.out _).mono ?_
      rintro e w1 ⟨rfl, hb1⟩
      have hx := HX.out.kept hb1
      have r2 := hx.b0
      have r3 := hx.b1
      have HX1 := Lib.hid hx
      clear hx hb1
      go_wp2_with fail
      refine (H2.out _).mono ?_
      rintro e w2 ⟨rfl, hb2⟩
      have HX2 := Lib.hid (HX1.out.kept hb2)
      clear hb2
      go_wp2_with fail
      go_ret2
      exact ⟨rfl, HX2.out.below⟩
  · have hok : cyOk x y u v = false := by unfold cyOk; rw [a1]; rfl
    have e1 : cyV x y u v = 0 := by simp [cyV, hok]
    rw [e1, hok]
    rw [a1] at H1
    clear hok e1 a1 H2
    go_enter Try.func69, Try.ntmps69
    go_wp2_with fail
    refine (H1.out _).mono ?_
    rintro e w1 ⟨rfl, hb1⟩
    have HX1 := Lib.hid (HX.out.kept hb1)
    clear hb1
    go_wp2_with fail
    go_ret2
    exact ⟨rfl, HX1.out.below⟩
end Go.Proofs.Ytmfcknlpbliehab

/- The program's WaysMatrix. -/
namespace Go.Proofs.Ytmfcknlpbliehab
open Go.RowKit
set_option linter.unusedVariables false
set_option maxRecDepth 100000 in
set_option maxHeartbeats 4000000 in
theorem waysMatrixI_ret (v1 v2 : Value) (n m : Nat) (xs ys : List Int) (w : World) (h1 : RCels w v1 n xs) (h2 : RCels w v2 m ys) (hn : n ≤ 1048576) (hm : m ≤ 1048576) :
    Calls Try.prog 56 #[v1, v2] w (TabsRet w (gdB n xs m ys) (wyT n xs m ys)) := by
  have HG := Lib.hid (areEnds_any v1 v2 n m xs ys w h1 h2 hn hm)
  rcases Bool.eq_false_or_eq_true (gdB n xs m ys) with a1 | a1
  case inr =>
    have e1 : wyT n xs m ys = [] := by unfold wyT; rw [a1]; rfl
    rw [a1, e1]
    rw [a1] at HG
    obtain ⟨A1, p1, rfl⟩ := h1.shape
    obtain ⟨A2, p2, rfl⟩ := h2.shape
    clear h1 h2 a1 e1
    go_enter Try.func56, Try.ntmps56
    go_wp2_with fail
    refine HG.out.mono ?_
    rintro e w1 ⟨rfl, hb1⟩
    go_wp2_with fail
    go_ret2
    exact ⟨.slice none 0 0, [], rfl, TRow.nil (Nat.le_refl _), hb1⟩
  obtain ⟨hmn, h4, hx, hy⟩ := gdB_of a1
  have e1 : wyT n xs m ys = wmT xs ys m n := by unfold wyT; rw [if_pos a1]
  rw [a1, e1]
  rw [a1] at HG
  have h4m : m ≤ 4 := by omega
  have HC : Hid (∀ i j, i < n → j < m → ∀ w, Calls Try.prog 69 #[celV (xs.getD (i * 2) 0) (xs.getD (i * 2 + 1) 0), celV (ys.getD (j * 2) 0) (ys.getD (j * 2 + 1) 0)] w (Ret w (.tuple #[.int .i64 (wmV xs ys i j), .bool true]))) := Lib.hid fun i j hi hj w => by
    have hok : cyOk (xs.getD (i * 2) 0) (xs.getD (i * 2 + 1) 0) (ys.getD (j * 2) 0) (ys.getD (j * 2 + 1) 0) = true := by
      have a := hx i hi
      have b := hy j hj
      unfold gdC at a b
      unfold cyOk
      rw [a, b]
      rfl
    have := countWaysI_ret (xs.getD (i * 2) 0) (xs.getD (i * 2 + 1) 0) (ys.getD (j * 2) 0) (ys.getD (j * 2 + 1) 0) w
    rw [hok] at this
    unfold cyV at this
    rw [if_pos hok] at this
    exact this
  obtain ⟨A1, p1, rfl⟩ := h1.shape
  obtain ⟨A2, p2, rfl⟩ := h2.shape
  have HR1 := Lib.hid h1
  have HR2 := Lib.hid h2
  clear h1 h2 hx hy a1 e1 hn hm hmn
  have hn := h4
  have hm := h4m
  clear h4 h4m
  go_enter Try.func56, Try.ntmps56
  go_wp2_with fail
  refine HG.out.mono ?_
  rintro e w1 ⟨rfl, hb1⟩
  have HB1 := Lib.hid hb1
  clear hb1 HG
  go_wp2_with fail
  go_loopw [6, 20] (fun l i wr => ∃ (k M : Nat) (vs : List Value), k ≤ n ∧ i = .int .i64 (k : Int) ∧ TRow wr w.heap.size M l vs (wmT xs ys m k) ∧ w.heap.size ≤ M ∧ Below w.heap.size w wr) (fun _ i _ => n - (intOf i).toNat)
  case atStart => exact ⟨0, w.heap.size, [], Nat.zero_le _, rfl, TRow.nil HB1.out.size, Nat.le_refl _, HB1.out⟩
  case round =>
    obtain ⟨k, M, vs, hk, rfl, htr, hM, hb⟩ := hrel
    by_cases hlt : k < n
    · obtain ⟨g1, o1, c1, e1, _, _⟩ := HR1.out.cells (by omega)
      injection e1 with e1 _ e3
      subst e1 e3
      have hr := (HR1.out.below hb).at hlt
      have c0 := hr.1
      have c1 := hr.2
      have HCK := Lib.hid fun j hj => HC.out k j hlt hj
      have i1 : (k : Int) < (n : Int) := by omega
      have i2 : 0 ≤ (k : Int) := by omega
      have HV : Hid (∀ j, wmV xs ys k j = wmV xs ys k j) := Lib.hid fun _ => rfl
      have HSUC := Lib.hid (wmT_succ xs ys m k)
      have hlen : vs.length = k := by rw [htr.len, wmT_length]
      obtain ⟨A, cc, rfl⟩ := htr.out.shape
      have HTR := Lib.hid htr
      have HB := Lib.hid hb
      have HRS := Lib.hid (wmR_succ xs ys k)
      have HRL := Lib.hid (wmR_length xs ys k)
      have HR0 : Hid ([] = wmR xs ys k 0) := Lib.hid rfl
      generalize wmR xs ys k = F at *
      generalize wmV xs ys k = G at *
      generalize xs.getD (k * 2) 0 = x0 at *
      generalize xs.getD (k * 2 + 1) 0 = x1 at *
      generalize wmT xs ys m k = TT at *
      clear htr hb hr
      obtain ⟨w0, rfl⟩ : ∃ w0, w0 = wr := ⟨_, rfl⟩
      go_wp2_with fail
      have hh : ∃ h, h = w0.heap.size := ⟨_, rfl⟩
      obtain ⟨h, hh⟩ := hh
      have HI0 : Hid (MxI w0 h x0 x1 (.slice none 0 0) [] (w0.alloc (.cells #[.int .i64 x0, .int .i64 x1] 54))) := Lib.hid (by
        subst hh
        exact ⟨IRow.nil _ _, QB.new w0 x0 x1 54, (Below.refl _ _).alloc (Nat.le_refl _) _⟩)
      rw [← hh]
      have HH := Lib.hid hh
      clear hh c0 c1
      go_loopw [9, 26] (fun l i wq => ∃ p : Nat, p ≤ m ∧ i = .int .i64 (p : Int) ∧ MxI w0 h x0 x1 l (F p) wq) (fun _ i _ => m - (intOf i).toNat)
      case atStart => exact ⟨0, Nat.zero_le _, rfl, by rw [← HR0.out]; exact HI0.out⟩
      case round =>
        obtain ⟨p, hp, rfl, hin⟩ := hrel
        clear HI0 HR0
        have hbw : Below w0.heap.size w0 wr := by rw [← HH.out]; exact hin.below
        by_cases hlp : p < m
        · obtain ⟨g2, o2, c2, e1, _, _⟩ := HR2.out.cells (by omega)
          injection e1 with e1 _ e3
          subst e1 e3
          have hr := ((HR2.out.below HB.out).below hbw).at hlp
          have d0 := hr.1
          have d1 := hr.2
          have HCP := Lib.hid (HCK.out p hlp)
          have HRP := Lib.hid (HRS.out p)
          have HLP := Lib.hid (HRL.out p)
          have j1 : (p : Int) < (m : Int) := by omega
          have j2 : 0 ≤ (p : Int) := by omega
          generalize ys.getD (p * 2) 0 = y0 at *
          generalize ys.getD (p * 2 + 1) 0 = y1 at *
          generalize G p = u at *
          obtain ⟨A3, c3, rfl⟩ := hin.row.shape
          have lt1 := hin.c.lt
          have hin2 := hin.kept HH.out ((Below.refl _ _).alloc (Nat.le_refl _) (.cells #[.int .i64 y0, .int .i64 y1] 54))
          have k0 := hin.c.c0
          have k1 := hin.c.c1
          rw [HLP.out] at hin2
          have HIN := Lib.hid hin2
          clear hr hin hin2 hbw HCK
          rw [HLP.out]
          go_wp2_with (first
            | (go_at_call 69; refine (HCP.out _).mono ?_; rintro e w3 ⟨rfl, hb3⟩; have hin3 := HIN.out.kept HH.out hb3)
            | (at_builtin; refine wpList_push (.tmp 36) (.tmp 38) rfl rfl (h + 1) _ (F p) rfl hin3.row rfl (by rw [HLP.out]; omega) (by have := hin3.c.lt; omega) ?_; intro v' w' hr' hg' hat'))
          have HP := Lib.hid (hin3.push hr' hg')
          clear hin3 hr' hg' hat' hb3
          go_roundw
          case rel => exact ⟨p + 1, by omega, by go_num, by rw [HRP.out]; exact HP.out⟩
          case measure => first | (simp [intOf]; done) | (simp [intOf]; omega)
        · obtain rfl : p = m := by omega
          have ht1 := HTR.out.below hbw
          rw [hlen] at ht1
          have hMw : M ≤ h + 1 := by have := HTR.out.size; have := HH.out; omega
          have hws : w.heap.size ≤ wr.heap.size := Nat.le_trans HB.out.size hbw.size
          have hr1 := hin.row.mono hMw
          have HLP := Lib.hid (HRL.out p)
          have HBW := Lib.hid (HB.out.trans (hbw.mono HB.out.size))
          obtain ⟨A3, c3, rfl⟩ := hr1.shape
          have HSU : Hid (wmT xs ys p (k + 1) = TT ++ [F p]) := Lib.hid HSUC.out
          generalize F p = row at *
          rw [HLP.out] at hr1 ⊢
          clear hin hbw
          go_wp2_with (at_builtin; refine wpList_pushV (.tmp 41) (.tmp 43) rfl rfl w.heap.size _ vs rfl (ht1.out.alloc _) wr.heap.size (.slice A3 p c3) rfl (by simp) rfl (by omega) (by simp; omega) ?_; intro v3 w3 hr3 hg3 hat3)
          have hgl := grown_alloc_left hg3
          have HT3 := Lib.hid (ht1.push hr1 hM hr3 hgl (hat_allocM hat3))
          have HB3 := Lib.hid (HBW.out.grown hgl hws (fun q hq => (ht1.outB q hq).1))
          have hz3 := HB3.out.size
          clear ht1 hr1 hr3 hg3 hat3 hgl
          go_roundw
          case rel => exact ⟨k + 1, w3.heap.size, _, by omega, by go_num, by rw [HSU.out]; exact HT3.out, hz3, HB3.out⟩
          case measure => first | (simp [intOf]; done) | (simp [intOf]; omega)
    · obtain rfl : k = n := by omega
      have HTR := Lib.hid (htr.mono (Nat.le_refl _) htr.size (Nat.le_refl _))
      have HB := Lib.hid hb
      obtain ⟨A5, c5, rfl⟩ := htr.out.shape
      clear htr hb
      go_wp2_with fail
      go_ret2
      exact ⟨_, _, rfl, HTR.out, HB.out⟩
end Go.Proofs.Ytmfcknlpbliehab
