/- The program's SwapTails. -/
import Derived.Test.YtahnknbggacndaaSwS
import Derived.Test.YtahnknbggacndaaDmI
import Derived.Test.YtahnknbggacndaaJoinTwo
namespace Go.Proofs.Ytahnknbggacndaa
open Go.RowKit
set_option linter.unusedVariables false
def e_pt4 (w : World) (x y u v : Int) (s t : ByteArray) (i j : Nat) : Nat → Value
  | 0 => .pointer (some ⟨w.heap.size, 0, none⟩)
  | 1 => .agg #[.int .i64 x, .int .i64 y]
  | 2 => .pointer (some ⟨w.heap.size, 2, none⟩)
  | 3 => .string s
  | 4 => .int .i64 (i : Int)
  | 5 => .string (s.extract 0 i)
  | 6 => .pointer (some ⟨w.heap.size + 1, 2, none⟩)
  | 7 => .string t
  | 8 => .int .i64 (j : Int)
  | 9 => .string (t.extract j t.size)
  | 11 => .string ((s.extract 0 i) ++ (t.extract j t.size))
  | 12 => .agg #[.int .i64 x, .int .i64 y, .string ((s.extract 0 i) ++ (t.extract j t.size))]
  | _ => undef
def v_pt4 (j : Nat) : Bool := ([true, true, true, true, true, true, true, true, true, true, false, true, true, false, false] : List Bool).getD j false
def t0_pt4 (w : World) (x y u v : Int) (s t : ByteArray) (i j : Nat) : BoxG := ⟨10, 1010, true, fun b => .slice (some ⟨b, 0, none⟩) 2 2, 9, [.string (s.extract 0 i), .string (t.extract j t.size)], [.string (s.extract 0 i), .string (t.extract j t.size)]⟩
def t1_pt4 (w : World) (x y u v : Int) (s t : ByteArray) (i j : Nat) : BoxG := ⟨13, 14, false, fun b => .pointer (some ⟨b, 0, none⟩), 33, [.int .i64 0, .int .i64 0, .string ⟨#[]⟩], [.int .i64 x, .int .i64 y, .string ((s.extract 0 i) ++ (t.extract j t.size))]⟩
def b_pt4 (w : World) (x y u v : Int) (s t : ByteArray) (i j : Nat) : List BoxG := [t0_pt4 w x y u v s t i j, t1_pt4 w x y u v s t i j]
theorem m0_pt4 (w : World) (x y u v : Int) (s t : ByteArray) (i j : Nat) : t0_pt4 w x y u v s t i j ∈ b_pt4 w x y u v s t i j := by simp [b_pt4]
theorem m1_pt4 (w : World) (x y u v : Int) (s t : ByteArray) (i j : Nat) : t1_pt4 w x y u v s t i j ∈ b_pt4 w x y u v s t i j := by simp [b_pt4]
theorem ok_pt4 (w : World) (x y u v : Int) (s t : ByteArray) (i j : Nat) : OkG v_pt4 (b_pt4 w x y u v s t i j) := by
  refine ⟨?_, ?_, ?_, ?_, ?_, ?_⟩ <;> simp [b_pt4, v_pt4, t0_pt4, t1_pt4]
def e_pt5 (w : World) (x y u v : Int) (s t : ByteArray) (i j : Nat) : Nat → Value
  | 0 => .pointer (some ⟨w.heap.size + 1, 0, none⟩)
  | 1 => .agg #[.int .i64 u, .int .i64 v]
  | 2 => .pointer (some ⟨w.heap.size + 1, 2, none⟩)
  | 3 => .string t
  | 4 => .int .i64 (j : Int)
  | 5 => .string (t.extract 0 j)
  | 6 => .pointer (some ⟨w.heap.size, 2, none⟩)
  | 7 => .string s
  | 8 => .int .i64 (i : Int)
  | 9 => .string (s.extract i s.size)
  | 11 => .string ((t.extract 0 j) ++ (s.extract i s.size))
  | 12 => .agg #[.int .i64 u, .int .i64 v, .string ((t.extract 0 j) ++ (s.extract i s.size))]
  | _ => undef
def v_pt5 (j : Nat) : Bool := ([true, true, true, true, true, true, true, true, true, true, false, true, true, false, false] : List Bool).getD j false
def t0_pt5 (w : World) (x y u v : Int) (s t : ByteArray) (i j : Nat) : BoxG := ⟨10, 1010, true, fun b => .slice (some ⟨b, 0, none⟩) 2 2, 9, [.string (t.extract 0 j), .string (s.extract i s.size)], [.string (t.extract 0 j), .string (s.extract i s.size)]⟩
def t1_pt5 (w : World) (x y u v : Int) (s t : ByteArray) (i j : Nat) : BoxG := ⟨13, 14, false, fun b => .pointer (some ⟨b, 0, none⟩), 33, [.int .i64 0, .int .i64 0, .string ⟨#[]⟩], [.int .i64 u, .int .i64 v, .string ((t.extract 0 j) ++ (s.extract i s.size))]⟩
def b_pt5 (w : World) (x y u v : Int) (s t : ByteArray) (i j : Nat) : List BoxG := [t0_pt5 w x y u v s t i j, t1_pt5 w x y u v s t i j]
theorem m0_pt5 (w : World) (x y u v : Int) (s t : ByteArray) (i j : Nat) : t0_pt5 w x y u v s t i j ∈ b_pt5 w x y u v s t i j := by simp [b_pt5]
theorem m1_pt5 (w : World) (x y u v : Int) (s t : ByteArray) (i j : Nat) : t1_pt5 w x y u v s t i j ∈ b_pt5 w x y u v s t i j := by simp [b_pt5]
theorem ok_pt5 (w : World) (x y u v : Int) (s t : ByteArray) (i j : Nat) : OkG v_pt5 (b_pt5 w x y u v s t i j) := by
  refine ⟨?_, ?_, ?_, ?_, ?_, ?_⟩ <;> simp [b_pt5, v_pt5, t0_pt5, t1_pt5]
theorem join_lit (a b : ByteArray) (g : Nat) (W : World) (h : W.heap[g]? = some (.cells #[.string a, .string b] 9 (0, 0))) (ha : a.size ≤ 100) (hb : b.size ≤ 100) : Calls Try.prog 89 #[.slice (some ⟨g, 0, none⟩) 2 2] W (Ret W (.string (a ++ b))) := by
  have hr : SRow W g (.slice (some ⟨g, 0, none⟩) 2 2) [a, b] := SRow.of_own (lit_row (n := 2) (size := 1) (zs := [.string a, .string b]) h rfl (by simp [maxLen])) rfl rfl
  exact (joinSteps_any [a, b] _ _ _ hr (by simp) (by intro z hz; simp at hz; rcases hz with rfl | rfl <;> omega)).mono fun e w' ⟨h1, h2⟩ => ⟨by rw [h1, two_cat], h2⟩
set_option maxRecDepth 100000 in
set_option maxHeartbeats 8000000 in
theorem swapI_ret (x y u v : Int) (s t : ByteArray) (w : World) (hs : s.size ≤ maxLen) (ht : t.size ≤ maxLen) :
    Calls Try.prog 47 #[wayV x y s, wayV u v t] w (Ret w (.tuple #[wyV (stR x y s u v t).1, wyV (stR x y s u v t).2, .bool (dmV x y s u v t)])) := by
  have HX := Lib.hid (W4.start w x y u v s t)
  have H3 : Hid (∀ w, Calls Try.prog 88 #[wayV x y s, wayV u v t] w (Ret w (mtV (mtR x y s u v t)))) := Lib.hid fun w => firstMeet_any x y u v s t w hs ht
  have hmt := fun i j (h : mtR x y s u v t = some (i, j)) => mtR_of h
  have hx := HX.out
  have r0 := hx.a.c0; have r1 := hx.a.c1; have r2 := hx.a.c2; have r3 := hx.b.c0; have r4 := hx.b.c1; have r5 := hx.b.c2; have y0 := hx.z 0 _ rfl; have y1 := hx.z 1 _ rfl; have y2 := hx.z 2 _ rfl; have y3 := hx.z2 0 _ rfl; have y4 := hx.z2 1 _ rfl; have y5 := hx.z2 2 _ rfl; have z0 := y0.1; have z1 := y1.1; have z2 := y2.1; have z3 := y3.1; have z4 := y4.1; have z5 := y5.1; have f0 := y0.2; have f1 := y1.2; have f2 := y2.2; have f3 := y3.2; have f4 := y4.2; have f5 := y5.2; clear y0 y1 y2 y3 y4 y5
  clear hx
  obtain ⟨R, hR⟩ : ∃ R, mtR x y s u v t = R := ⟨_, rfl⟩
  rw [hR] at H3 hmt
  rcases R with _ | ⟨i, j⟩
  · have e1 : dmV x y s u v t = false := by unfold dmV; rw [hR]; simp
    have e2 : stR x y s u v t = ((0, 0, ⟨#[]⟩), (0, 0, ⟨#[]⟩)) := by unfold stR; rw [hR]; split <;> rfl
    rw [e1, e2]
    unfold mtV at H3
    clear e1 e2 hmt hR
    go_enter Try.func47, Try.ntmps47
    go_wp2_with fail
    refine (H3.out _).mono ?_
    rintro e w1 ⟨rfl, hb1⟩
    have hx := HX.out.kept hb1
    clear r0 r1 r2 r3 r4 r5 z0 z1 z2 z3 z4 z5 f0 f1 f2 f3 f4 f5
    have r0 := hx.a.c0; have r1 := hx.a.c1; have r2 := hx.a.c2; have r3 := hx.b.c0; have r4 := hx.b.c1; have r5 := hx.b.c2; have y0 := hx.z 0 _ rfl; have y1 := hx.z 1 _ rfl; have y2 := hx.z 2 _ rfl; have y3 := hx.z2 0 _ rfl; have y4 := hx.z2 1 _ rfl; have y5 := hx.z2 2 _ rfl; have z0 := y0.1; have z1 := y1.1; have z2 := y2.1; have z3 := y3.1; have z4 := y4.1; have z5 := y5.1; have f0 := y0.2; have f1 := y1.2; have f2 := y2.2; have f3 := y3.2; have f4 := y4.2; have f5 := y5.2; clear y0 y1 y2 y3 y4 y5
    have HX1 := Lib.hid hx
    clear hx hb1
    go_wp2_with fail
    obtain ⟨a0, a1, a2, a3, a4, a5, hzb⟩ := HX1.out.done (0) (0) (0) (0) (⟨#[]⟩) (⟨#[]⟩) _ rfl
    simp only [RG.setN, Nat.zero_add] at a0 a1 a2 a3 a4 a5 hzb
    refine bodyPost_ret (v := .tuple #[wyV (0, 0, ⟨#[]⟩), wyV (0, 0, ⟨#[]⟩), .bool false]) ?_ rfl ⟨rfl, hzb⟩
    simp [results, Try.f47, go_sem, a0, a1, a2, a3, a4, a5]
  · obtain ⟨⟨m1, m2⟩, m3, m4⟩ := hmt i j rfl
    have e0 : dmOk x y s u v t = true := by unfold dmOk; rw [m1, m3]; rfl
    have e1 : dmV x y s u v t = true := by unfold dmV; rw [e0, hR]; rfl
    have e2 : stR x y s u v t = ((x, y, s.extract 0 i ++ t.extract j t.size), (u, v, t.extract 0 j ++ s.extract i s.size)) := by
      unfold stR
      rw [if_pos e0, hR]
    have KS : Hid (s.size ≤ 24 ∧ t.size ≤ 24) := Lib.hid ⟨(wayB_of m1).2.1, (wayB_of m3).2.1⟩
    rw [e1, e2]
    unfold mtV at H3
    have Ki : Hid (0 ≤ (i : Int) ∧ (i : Int) ≤ (s.size : Int)) := Lib.hid (by omega)
    have Kj : Hid (0 ≤ (j : Int) ∧ (j : Int) ≤ (t.size : Int)) := Lib.hid (by omega)
    clear e0 e1 e2 hmt hR m1 m2 m3 m4
    go_enter Try.func47, Try.ntmps47
    go_wp2_with fail
    refine (H3.out _).mono ?_
    rintro e wn ⟨rfl, hb3⟩
    have HX3 := Lib.hid (HX.out.kept hb3)
    clear r0 r1 r2 r3 r4 r5 z0 z1 z2 z3 z4 z5 f0 f1 f2 f3 f4 f5
    clear hb3
    go_wp2_with fail
    have HB : Hid (W4 w x y u v s t wn) := Lib.hid HX3.out
    have HRG0 : ∀ (a : Act) (ww : World), ∃ (uu : Nat → Value) (bb : Nat → Nat), a = ((((((((((((((a.put (some 23) (uu 0)).put (some 24) (uu 1)).put (some 25) (uu 2)).put (some 26) (uu 3)).put (some 27) (uu 4)).put (some 28) (uu 5)).put (some 29) (uu 6)).put (some 30) (uu 7)).put (some 31) (uu 8)).put (some 32) (uu 9)).put (some 33) (uu 10)).put (some 34) (uu 11)).put (some 35) (uu 12)).put (some 10) (uu 13)) ∧ RG ww (e_pt4 w x y u v s t i j) v_pt4 (b_pt4 w x y u v s t i j) (fun _ => false) ww.drew uu bb := fun a ww => ⟨fun j => a.tmps.getD (([23, 24, 25, 26, 27, 28, 29, 30, 31, 32, 33, 34, 35, 10, 0] : List Nat).getD j 0) undef, fun _ => 0, (by show a = ((((((((((((((a.put (some 23) (a.tmps.getD 23 undef)).put (some 24) (a.tmps.getD 24 undef)).put (some 25) (a.tmps.getD 25 undef)).put (some 26) (a.tmps.getD 26 undef)).put (some 27) (a.tmps.getD 27 undef)).put (some 28) (a.tmps.getD 28 undef)).put (some 29) (a.tmps.getD 29 undef)).put (some 30) (a.tmps.getD 30 undef)).put (some 31) (a.tmps.getD 31 undef)).put (some 32) (a.tmps.getD 32 undef)).put (some 33) (a.tmps.getD 33 undef)).put (some 34) (a.tmps.getD 34 undef)).put (some 35) (a.tmps.getD 35 undef)).put (some 10) (a.tmps.getD 10 undef)); simp only [put_same]), RG.start _ _⟩
    refine wp_region_inv3 (fun a0 LL a W => ∃ (uu : Nat → Value) (bb : Nat → Nat), a = ((((((((((((((a0.put (some 23) (uu 0)).put (some 24) (uu 1)).put (some 25) (uu 2)).put (some 26) (uu 3)).put (some 27) (uu 4)).put (some 28) (uu 5)).put (some 29) (uu 6)).put (some 30) (uu 7)).put (some 31) (uu 8)).put (some 32) (uu 9)).put (some 33) (uu 10)).put (some 34) (uu 11)).put (some 35) (uu 12)).put (some 10) (uu 13)) ∧ RG wn (e_pt4 w x y u v s t i j) v_pt4 (b_pt4 w x y u v s t i j) LL W uu bb) (by kernel_rfl) (by kernel_rfl) (HRG0 _ _) ?_ ?_
    · rintro jj op hop LL a' WW ⟨uu, bb, rfl, hF⟩ hL hdep
      clear HRG0
      match jj, hop with
      | 0, hop =>
        simp at hop; subst hop
        refine wpOp_run rfl rfl ?_
        simp only [Act.put, List.setIfInBounds_toArray, List.set_cons_succ, List.set_cons_zero]
        go_simp
        refine ⟨_, ?_, _, hF.setv (ok_pt4 w x y u v s t i j) 0 rfl (.pointer (some ⟨w.heap.size, 0, none⟩)) rfl⟩
        simp [upg]
      | 1, hop =>
        simp at hop; subst hop
        refine wpOp_run rfl rfl ?_
        simp only [Act.put, List.setIfInBounds_toArray, List.set_cons_succ, List.set_cons_zero]
        have e0 : uu 0 = .pointer (some ⟨w.heap.size, 0, none⟩) := hF.val 0 rfl (hdep ⟨0, .data⟩ (by simp) rfl)
        simp only [e0]
        have r0 := (hF.below.cell (p := ⟨w.heap.size, 0, none⟩) HB.out.a.lt).trans HB.out.a.c0
        have r1 := (hF.below.cell (p := ⟨w.heap.size, 1, none⟩) HB.out.a.lt).trans HB.out.a.c1
        go_simp
        refine ⟨_, ?_, _, hF.setv (ok_pt4 w x y u v s t i j) 1 rfl (.agg #[.int .i64 x, .int .i64 y]) rfl⟩
        simp [upg, e0]
      | 2, hop =>
        simp at hop; subst hop
        refine wpOp_run rfl rfl ?_
        simp only [Act.put, List.setIfInBounds_toArray, List.set_cons_succ, List.set_cons_zero]
        go_simp
        refine ⟨_, ?_, _, hF.setv (ok_pt4 w x y u v s t i j) 2 rfl (.pointer (some ⟨w.heap.size, 2, none⟩)) rfl⟩
        simp [upg]
      | 3, hop =>
        simp at hop; subst hop
        refine wpOp_run rfl rfl ?_
        simp only [Act.put, List.setIfInBounds_toArray, List.set_cons_succ, List.set_cons_zero]
        have e2 : uu 2 = .pointer (some ⟨w.heap.size, 2, none⟩) := hF.val 2 rfl (hdep ⟨2, .data⟩ (by simp) rfl)
        simp only [e2]
        have r2 := (hF.below.cell (p := ⟨w.heap.size, 2, none⟩) HB.out.a.lt).trans HB.out.a.c2
        go_simp
        refine ⟨_, ?_, _, hF.setv (ok_pt4 w x y u v s t i j) 3 rfl (.string s) rfl⟩
        simp [upg, e2]
      | 4, hop =>
        simp at hop; subst hop
        refine wpOp_run rfl rfl ?_
        simp only [Act.put, List.setIfInBounds_toArray, List.set_cons_succ, List.set_cons_zero]
        go_simp
        refine ⟨_, ?_, _, hF.setv (ok_pt4 w x y u v s t i j) 4 rfl (.int .i64 (i : Int)) rfl⟩
        simp [upg]
      | 5, hop =>
        simp at hop; subst hop
        refine wpOp_run rfl rfl ?_
        simp only [Act.put, List.setIfInBounds_toArray, List.set_cons_succ, List.set_cons_zero]
        have e3 : uu 3 = .string s := hF.val 3 rfl (hdep ⟨3, .data⟩ (by simp) rfl)
        have e4 : uu 4 = .int .i64 (i : Int) := hF.val 4 rfl (hdep ⟨4, .data⟩ (by simp) rfl)
        simp only [e3, e4]
        have i1' := Ki.out
        clear i1'
        have k1 := Ki.out.1
        have k2 := Ki.out.2
        go_simp
        refine ⟨_, ?_, _, hF.setv (ok_pt4 w x y u v s t i j) 5 rfl (.string (s.extract 0 i)) rfl⟩
        simp [upg, e3, e4]
      | 6, hop =>
        simp at hop; subst hop
        refine wpOp_run rfl rfl ?_
        simp only [Act.put, List.setIfInBounds_toArray, List.set_cons_succ, List.set_cons_zero]
        go_simp
        refine ⟨_, ?_, _, hF.setv (ok_pt4 w x y u v s t i j) 6 rfl (.pointer (some ⟨w.heap.size + 1, 2, none⟩)) rfl⟩
        simp [upg]
      | 7, hop =>
        simp at hop; subst hop
        refine wpOp_run rfl rfl ?_
        simp only [Act.put, List.setIfInBounds_toArray, List.set_cons_succ, List.set_cons_zero]
        have e6 : uu 6 = .pointer (some ⟨w.heap.size + 1, 2, none⟩) := hF.val 6 rfl (hdep ⟨6, .data⟩ (by simp) rfl)
        simp only [e6]
        have r2 := (hF.below.cell (p := ⟨w.heap.size + 1, 2, none⟩) HB.out.b.lt).trans HB.out.b.c2
        go_simp
        refine ⟨_, ?_, _, hF.setv (ok_pt4 w x y u v s t i j) 7 rfl (.string t) rfl⟩
        simp [upg, e6]
      | 8, hop =>
        simp at hop; subst hop
        refine wpOp_run rfl rfl ?_
        simp only [Act.put, List.setIfInBounds_toArray, List.set_cons_succ, List.set_cons_zero]
        go_simp
        refine ⟨_, ?_, _, hF.setv (ok_pt4 w x y u v s t i j) 8 rfl (.int .i64 (j : Int)) rfl⟩
        simp [upg]
      | 9, hop =>
        simp at hop; subst hop
        refine wpOp_run rfl rfl ?_
        simp only [Act.put, List.setIfInBounds_toArray, List.set_cons_succ, List.set_cons_zero]
        have e7 : uu 7 = .string t := hF.val 7 rfl (hdep ⟨7, .data⟩ (by simp) rfl)
        have e8 : uu 8 = .int .i64 (j : Int) := hF.val 8 rfl (hdep ⟨8, .data⟩ (by simp) rfl)
        simp only [e7, e8]
        have k1 := Kj.out.1
        have k2 := Kj.out.2
        go_simp
        refine ⟨_, ?_, _, hF.setv (ok_pt4 w x y u v s t i j) 9 rfl (.string (t.extract j t.size)) rfl⟩
        simp [upg, e7, e8]
      | 10, hop =>
        simp at hop; subst hop
        refine wpOp_run rfl rfl ?_
        simp only [Act.put, List.setIfInBounds_toArray, List.set_cons_succ, List.set_cons_zero]
        have e5 : uu 5 = .string (s.extract 0 i) := hF.val 5 rfl (hdep ⟨5, .data⟩ (by simp) rfl)
        have e9 : uu 9 = .string (t.extract j t.size) := hF.val 9 rfl (hdep ⟨9, .data⟩ (by simp) rfl)
        simp only [e5, e9]
        have HAL := hF.alloc (ok_pt4 w x y u v s t i j) (t0_pt4 w x y u v s t i j) (m0_pt4 w x y u v s t i j) hL
        simp only [t0_pt4] at HAL
        go_simp
        refine ⟨_, ?_, _, HAL⟩
        simp [upg, e5, e9]
      | 11, hop =>
        simp at hop; subst hop
        refine wpOp_run rfl rfl ?_
        simp only [Act.put, List.setIfInBounds_toArray, List.set_cons_succ, List.set_cons_zero]
        obtain ⟨ep0, lo0, hi0, cc0, lit0⟩ := hF.box (t0_pt4 w x y u v s t i j) (m0_pt4 w x y u v s t i j) (hdep ⟨10, .data⟩ (by simp) rfl)
        simp only [t0_pt4] at ep0 lo0 hi0 lit0
        simp only [ep0]
        have k1 := Ki.out.2
        have k2 := Kj.out.2
        have k3 := KS.out.1
        have k4 := KS.out.2
        go_simp
        go_at_call 89
        refine (join_lit (s.extract 0 i) (t.extract j t.size) _ _ (by simpa using lit0) (by rw [ByteArray.size_extract]; omega) (by rw [ByteArray.size_extract]; omega)).mono ?_
        rintro en w' ⟨rfl, hbC⟩
        refine ⟨_, ?_, _, (hF.kept hbC).setv (ok_pt4 w x y u v s t i j) 11 rfl (.string ((s.extract 0 i) ++ (t.extract j t.size))) rfl⟩
        simp [upg, ep0]
      | 12, hop =>
        simp at hop; subst hop
        refine wpOp_run rfl rfl ?_
        simp only [Act.put, List.setIfInBounds_toArray, List.set_cons_succ, List.set_cons_zero]
        have e1 : uu 1 = .agg #[.int .i64 x, .int .i64 y] := hF.val 1 rfl (hdep ⟨1, .data⟩ (by simp) rfl)
        have e11 : uu 11 = .string ((s.extract 0 i) ++ (t.extract j t.size)) := hF.val 11 rfl (hdep ⟨11, .data⟩ (by simp) rfl)
        simp only [e1, e11]
        go_simp
        refine ⟨_, ?_, _, hF.setv (ok_pt4 w x y u v s t i j) 12 rfl (.agg #[.int .i64 x, .int .i64 y, .string ((s.extract 0 i) ++ (t.extract j t.size))]) rfl⟩
        simp [upg, e1, e11]
      | 13, hop =>
        simp at hop; subst hop
        refine wpOp_run rfl rfl ?_
        simp only [Act.put, List.setIfInBounds_toArray, List.set_cons_succ, List.set_cons_zero]
        have HAL := hF.alloc (ok_pt4 w x y u v s t i j) (t1_pt4 w x y u v s t i j) (m1_pt4 w x y u v s t i j) hL
        simp only [t1_pt4] at HAL
        go_simp
        refine ⟨_, ?_, _, HAL⟩
        simp [upg]
      | 14, hop =>
        simp at hop; subst hop
        refine wpOp_run rfl rfl ?_
        simp only [Act.put, List.setIfInBounds_toArray, List.set_cons_succ, List.set_cons_zero]
        have e12 : uu 12 = .agg #[.int .i64 x, .int .i64 y, .string ((s.extract 0 i) ++ (t.extract j t.size))] := hF.val 12 rfl (hdep ⟨12, .data⟩ (by simp) rfl)
        have dp := hdep ⟨13, .data⟩ (by simp) rfl
        obtain ⟨ep, k2, k3, k4, _⟩ := hF.box (t1_pt4 w x y u v s t i j) (m1_pt4 w x y u v s t i j) dp
        have HST := hF.store (ok_pt4 w x y u v s t i j) (t1_pt4 w x y u v s t i j) (m1_pt4 w x y u v s t i j) rfl dp hL
        simp only [t1_pt4, hL, Bool.false_eq_true, and_false, if_false] at k4
        have s0 := k4 0 _ rfl
        have sc0 := s0.1; have sf0 := s0.2; clear s0
        have s1 := k4 1 _ rfl
        have sc1 := s1.1; have sf1 := s1.2; clear s1
        have s2 := k4 2 _ rfl
        have sc2 := s2.1; have sf2 := s2.2; clear s2
        simp only [RG.setN, t1_pt4, Nat.zero_add] at HST ep
        simp only [e12, ep]
        clear hF k4 k2 k3 dp
        go_simp
        refine ⟨_, ?_, _, HST⟩
        simp [e12, ep]
      | jj + 15, hop => simp at hop
    · rintro LL a' WW hall ⟨uu, bb, rfl, hF⟩
      clear HRG0
      have e0 : uu 0 = .pointer (some ⟨w.heap.size, 0, none⟩) := hF.val 0 rfl (hall 0 (by simp))
      have e1 : uu 1 = .agg #[.int .i64 x, .int .i64 y] := hF.val 1 rfl (hall 1 (by simp))
      have e2 : uu 2 = .pointer (some ⟨w.heap.size, 2, none⟩) := hF.val 2 rfl (hall 2 (by simp))
      have e3 : uu 3 = .string s := hF.val 3 rfl (hall 3 (by simp))
      have e4 : uu 4 = .int .i64 (i : Int) := hF.val 4 rfl (hall 4 (by simp))
      have e5 : uu 5 = .string (s.extract 0 i) := hF.val 5 rfl (hall 5 (by simp))
      have e6 : uu 6 = .pointer (some ⟨w.heap.size + 1, 2, none⟩) := hF.val 6 rfl (hall 6 (by simp))
      have e7 : uu 7 = .string t := hF.val 7 rfl (hall 7 (by simp))
      have e8 : uu 8 = .int .i64 (j : Int) := hF.val 8 rfl (hall 8 (by simp))
      have e9 : uu 9 = .string (t.extract j t.size) := hF.val 9 rfl (hall 9 (by simp))
      have e11 : uu 11 = .string ((s.extract 0 i) ++ (t.extract j t.size)) := hF.val 11 rfl (hall 11 (by simp))
      have e12 : uu 12 = .agg #[.int .i64 x, .int .i64 y, .string ((s.extract 0 i) ++ (t.extract j t.size))] := hF.val 12 rfl (hall 12 (by simp))
      obtain ⟨ep0, lo0, hi0, q0, _⟩ := hF.box (t0_pt4 w x y u v s t i j) (m0_pt4 w x y u v s t i j) (hall 10 (by simp))
      simp only [t0_pt4, Bool.true_eq_false, false_and, if_false] at q0
      simp only [t0_pt4] at ep0 lo0 hi0
      have bc00 := (q0 0 _ rfl).1
      have bc01 := (q0 1 _ rfl).1
      clear q0
      obtain ⟨ep1, lo1, hi1, q1, _⟩ := hF.box (t1_pt4 w x y u v s t i j) (m1_pt4 w x y u v s t i j) (hall 13 (by simp))
      simp only [t1_pt4, show LL 14 = true from hall 14 (by simp), and_self, if_true] at q1
      simp only [t1_pt4] at ep1 lo1 hi1
      have bc10 := (q1 0 _ rfl).1
      have bc11 := (q1 1 _ rfl).1
      have bc12 := (q1 2 _ rfl).1
      clear q1
      have ne01 : bb 10 ≠ bb 13 := hF.sep (t0_pt4 w x y u v s t i j) (m0_pt4 w x y u v s t i j) (t1_pt4 w x y u v s t i j) (m1_pt4 w x y u v s t i j) (by simp [t0_pt4, t1_pt4]) (hall 10 (by simp)) (hall 13 (by simp))
      have HBL := Lib.hid hF.below
      clear hF hall
      simp only [Act.put, List.setIfInBounds_toArray, List.set_cons_succ, List.set_cons_zero]
      simp only [e0, e1, e2, e3, e4, e5, e6, e7, e8, e9, e11, e12, ep0, ep1]
      clear e0 e1 e2 e3 e4 e5 e6 e7 e8 e9 e11 e12 ep0 ep1
      generalize bb 10 = b0 at *
      generalize bb 13 = b1 at *
      have HB1 := Lib.hid (HB.out.kept HBL.out)
      have HQ1 : Hid (WB b1 x y (s.extract 0 i ++ t.extract j t.size) WW ∧ w.heap.size + 1 + 1 + 1 < b1) := Lib.hid ⟨⟨bc10, bc11, bc12, hi1⟩, Nat.lt_of_lt_of_le HB.out.lt lo1⟩
      clear bc10 bc11 bc12 HBL HB hi1 lo1 bc00 bc01 hi0 lo0 ne01
      have HB := HB1
      generalize b1 = g1 at *
      go_wp2_with fail
      have HRG0 : ∀ (a : Act) (ww : World), ∃ (uu : Nat → Value) (bb : Nat → Nat), a = ((((((((((((((a.put (some 36) (uu 0)).put (some 37) (uu 1)).put (some 38) (uu 2)).put (some 39) (uu 3)).put (some 40) (uu 4)).put (some 41) (uu 5)).put (some 42) (uu 6)).put (some 43) (uu 7)).put (some 44) (uu 8)).put (some 45) (uu 9)).put (some 46) (uu 10)).put (some 47) (uu 11)).put (some 48) (uu 12)).put (some 11) (uu 13)) ∧ RG ww (e_pt5 w x y u v s t i j) v_pt5 (b_pt5 w x y u v s t i j) (fun _ => false) ww.drew uu bb := fun a ww => ⟨fun j => a.tmps.getD (([36, 37, 38, 39, 40, 41, 42, 43, 44, 45, 46, 47, 48, 11, 0] : List Nat).getD j 0) undef, fun _ => 0, (by show a = ((((((((((((((a.put (some 36) (a.tmps.getD 36 undef)).put (some 37) (a.tmps.getD 37 undef)).put (some 38) (a.tmps.getD 38 undef)).put (some 39) (a.tmps.getD 39 undef)).put (some 40) (a.tmps.getD 40 undef)).put (some 41) (a.tmps.getD 41 undef)).put (some 42) (a.tmps.getD 42 undef)).put (some 43) (a.tmps.getD 43 undef)).put (some 44) (a.tmps.getD 44 undef)).put (some 45) (a.tmps.getD 45 undef)).put (some 46) (a.tmps.getD 46 undef)).put (some 47) (a.tmps.getD 47 undef)).put (some 48) (a.tmps.getD 48 undef)).put (some 11) (a.tmps.getD 11 undef)); simp only [put_same]), RG.start _ _⟩
      refine wp_region_inv3 (fun a0 LL a W => ∃ (uu : Nat → Value) (bb : Nat → Nat), a = ((((((((((((((a0.put (some 36) (uu 0)).put (some 37) (uu 1)).put (some 38) (uu 2)).put (some 39) (uu 3)).put (some 40) (uu 4)).put (some 41) (uu 5)).put (some 42) (uu 6)).put (some 43) (uu 7)).put (some 44) (uu 8)).put (some 45) (uu 9)).put (some 46) (uu 10)).put (some 47) (uu 11)).put (some 48) (uu 12)).put (some 11) (uu 13)) ∧ RG WW (e_pt5 w x y u v s t i j) v_pt5 (b_pt5 w x y u v s t i j) LL W uu bb) (by kernel_rfl) (by kernel_rfl) (HRG0 _ _) ?_ ?_
      · rintro jj op hop LL a' WW ⟨uu, bb, rfl, hF⟩ hL hdep
        clear HRG0
        match jj, hop with
        | 0, hop =>
          simp at hop; subst hop
          refine wpOp_run rfl rfl ?_
          simp only [Act.put, List.setIfInBounds_toArray, List.set_cons_succ, List.set_cons_zero]
          go_simp
          refine ⟨_, ?_, _, hF.setv (ok_pt5 w x y u v s t i j) 0 rfl (.pointer (some ⟨w.heap.size + 1, 0, none⟩)) rfl⟩
          simp [upg]
        | 1, hop =>
          simp at hop; subst hop
          refine wpOp_run rfl rfl ?_
          simp only [Act.put, List.setIfInBounds_toArray, List.set_cons_succ, List.set_cons_zero]
          have e0 : uu 0 = .pointer (some ⟨w.heap.size + 1, 0, none⟩) := hF.val 0 rfl (hdep ⟨0, .data⟩ (by simp) rfl)
          simp only [e0]
          have r0 := (hF.below.cell (p := ⟨w.heap.size + 1, 0, none⟩) HB.out.b.lt).trans HB.out.b.c0
          have r1 := (hF.below.cell (p := ⟨w.heap.size + 1, 1, none⟩) HB.out.b.lt).trans HB.out.b.c1
          go_simp
          refine ⟨_, ?_, _, hF.setv (ok_pt5 w x y u v s t i j) 1 rfl (.agg #[.int .i64 u, .int .i64 v]) rfl⟩
          simp [upg, e0]
        | 2, hop =>
          simp at hop; subst hop
          refine wpOp_run rfl rfl ?_
          simp only [Act.put, List.setIfInBounds_toArray, List.set_cons_succ, List.set_cons_zero]
          go_simp
          refine ⟨_, ?_, _, hF.setv (ok_pt5 w x y u v s t i j) 2 rfl (.pointer (some ⟨w.heap.size + 1, 2, none⟩)) rfl⟩
          simp [upg]
        | 3, hop =>
          simp at hop; subst hop
          refine wpOp_run rfl rfl ?_
          simp only [Act.put, List.setIfInBounds_toArray, List.set_cons_succ, List.set_cons_zero]
          have e2 : uu 2 = .pointer (some ⟨w.heap.size + 1, 2, none⟩) := hF.val 2 rfl (hdep ⟨2, .data⟩ (by simp) rfl)
          simp only [e2]
          have r2 := (hF.below.cell (p := ⟨w.heap.size + 1, 2, none⟩) HB.out.b.lt).trans HB.out.b.c2
          go_simp
          refine ⟨_, ?_, _, hF.setv (ok_pt5 w x y u v s t i j) 3 rfl (.string t) rfl⟩
          simp [upg, e2]
        | 4, hop =>
          simp at hop; subst hop
          refine wpOp_run rfl rfl ?_
          simp only [Act.put, List.setIfInBounds_toArray, List.set_cons_succ, List.set_cons_zero]
          go_simp
          refine ⟨_, ?_, _, hF.setv (ok_pt5 w x y u v s t i j) 4 rfl (.int .i64 (j : Int)) rfl⟩
          simp [upg]
        | 5, hop =>
          simp at hop; subst hop
          refine wpOp_run rfl rfl ?_
          simp only [Act.put, List.setIfInBounds_toArray, List.set_cons_succ, List.set_cons_zero]
          have e3 : uu 3 = .string t := hF.val 3 rfl (hdep ⟨3, .data⟩ (by simp) rfl)
          have e4 : uu 4 = .int .i64 (j : Int) := hF.val 4 rfl (hdep ⟨4, .data⟩ (by simp) rfl)
          simp only [e3, e4]
          have i1' := Kj.out
          clear i1'
          have k1 := Kj.out.1
          have k2 := Kj.out.2
          go_simp
          refine ⟨_, ?_, _, hF.setv (ok_pt5 w x y u v s t i j) 5 rfl (.string (t.extract 0 j)) rfl⟩
          simp [upg, e3, e4]
        | 6, hop =>
          simp at hop; subst hop
          refine wpOp_run rfl rfl ?_
          simp only [Act.put, List.setIfInBounds_toArray, List.set_cons_succ, List.set_cons_zero]
          go_simp
          refine ⟨_, ?_, _, hF.setv (ok_pt5 w x y u v s t i j) 6 rfl (.pointer (some ⟨w.heap.size, 2, none⟩)) rfl⟩
          simp [upg]
        | 7, hop =>
          simp at hop; subst hop
          refine wpOp_run rfl rfl ?_
          simp only [Act.put, List.setIfInBounds_toArray, List.set_cons_succ, List.set_cons_zero]
          have e6 : uu 6 = .pointer (some ⟨w.heap.size, 2, none⟩) := hF.val 6 rfl (hdep ⟨6, .data⟩ (by simp) rfl)
          simp only [e6]
          have r2 := (hF.below.cell (p := ⟨w.heap.size, 2, none⟩) HB.out.a.lt).trans HB.out.a.c2
          go_simp
          refine ⟨_, ?_, _, hF.setv (ok_pt5 w x y u v s t i j) 7 rfl (.string s) rfl⟩
          simp [upg, e6]
        | 8, hop =>
          simp at hop; subst hop
          refine wpOp_run rfl rfl ?_
          simp only [Act.put, List.setIfInBounds_toArray, List.set_cons_succ, List.set_cons_zero]
          go_simp
          refine ⟨_, ?_, _, hF.setv (ok_pt5 w x y u v s t i j) 8 rfl (.int .i64 (i : Int)) rfl⟩
          simp [upg]
        | 9, hop =>
          simp at hop; subst hop
          refine wpOp_run rfl rfl ?_
          simp only [Act.put, List.setIfInBounds_toArray, List.set_cons_succ, List.set_cons_zero]
          have e7 : uu 7 = .string s := hF.val 7 rfl (hdep ⟨7, .data⟩ (by simp) rfl)
          have e8 : uu 8 = .int .i64 (i : Int) := hF.val 8 rfl (hdep ⟨8, .data⟩ (by simp) rfl)
          simp only [e7, e8]
          have k1 := Ki.out.1
          have k2 := Ki.out.2
          go_simp
          refine ⟨_, ?_, _, hF.setv (ok_pt5 w x y u v s t i j) 9 rfl (.string (s.extract i s.size)) rfl⟩
          simp [upg, e7, e8]
        | 10, hop =>
          simp at hop; subst hop
          refine wpOp_run rfl rfl ?_
          simp only [Act.put, List.setIfInBounds_toArray, List.set_cons_succ, List.set_cons_zero]
          have e5 : uu 5 = .string (t.extract 0 j) := hF.val 5 rfl (hdep ⟨5, .data⟩ (by simp) rfl)
          have e9 : uu 9 = .string (s.extract i s.size) := hF.val 9 rfl (hdep ⟨9, .data⟩ (by simp) rfl)
          simp only [e5, e9]
          have HAL := hF.alloc (ok_pt5 w x y u v s t i j) (t0_pt5 w x y u v s t i j) (m0_pt5 w x y u v s t i j) hL
          simp only [t0_pt5] at HAL
          go_simp
          refine ⟨_, ?_, _, HAL⟩
          simp [upg, e5, e9]
        | 11, hop =>
          simp at hop; subst hop
          refine wpOp_run rfl rfl ?_
          simp only [Act.put, List.setIfInBounds_toArray, List.set_cons_succ, List.set_cons_zero]
          obtain ⟨ep0, lo0, hi0, cc0, lit0⟩ := hF.box (t0_pt5 w x y u v s t i j) (m0_pt5 w x y u v s t i j) (hdep ⟨10, .data⟩ (by simp) rfl)
          simp only [t0_pt5] at ep0 lo0 hi0 lit0
          simp only [ep0]
          have k1 := Ki.out.2
          have k2 := Kj.out.2
          have k3 := KS.out.1
          have k4 := KS.out.2
          go_simp
          go_at_call 89
          refine (join_lit (t.extract 0 j) (s.extract i s.size) _ _ (by simpa using lit0) (by rw [ByteArray.size_extract]; omega) (by rw [ByteArray.size_extract]; omega)).mono ?_
          rintro en w' ⟨rfl, hbC⟩
          refine ⟨_, ?_, _, (hF.kept hbC).setv (ok_pt5 w x y u v s t i j) 11 rfl (.string ((t.extract 0 j) ++ (s.extract i s.size))) rfl⟩
          simp [upg, ep0]
        | 12, hop =>
          simp at hop; subst hop
          refine wpOp_run rfl rfl ?_
          simp only [Act.put, List.setIfInBounds_toArray, List.set_cons_succ, List.set_cons_zero]
          have e1 : uu 1 = .agg #[.int .i64 u, .int .i64 v] := hF.val 1 rfl (hdep ⟨1, .data⟩ (by simp) rfl)
          have e11 : uu 11 = .string ((t.extract 0 j) ++ (s.extract i s.size)) := hF.val 11 rfl (hdep ⟨11, .data⟩ (by simp) rfl)
          simp only [e1, e11]
          go_simp
          refine ⟨_, ?_, _, hF.setv (ok_pt5 w x y u v s t i j) 12 rfl (.agg #[.int .i64 u, .int .i64 v, .string ((t.extract 0 j) ++ (s.extract i s.size))]) rfl⟩
          simp [upg, e1, e11]
        | 13, hop =>
          simp at hop; subst hop
          refine wpOp_run rfl rfl ?_
          simp only [Act.put, List.setIfInBounds_toArray, List.set_cons_succ, List.set_cons_zero]
          have HAL := hF.alloc (ok_pt5 w x y u v s t i j) (t1_pt5 w x y u v s t i j) (m1_pt5 w x y u v s t i j) hL
          simp only [t1_pt5] at HAL
          go_simp
          refine ⟨_, ?_, _, HAL⟩
          simp [upg]
        | 14, hop =>
          simp at hop; subst hop
          refine wpOp_run rfl rfl ?_
          simp only [Act.put, List.setIfInBounds_toArray, List.set_cons_succ, List.set_cons_zero]
          have e12 : uu 12 = .agg #[.int .i64 u, .int .i64 v, .string ((t.extract 0 j) ++ (s.extract i s.size))] := hF.val 12 rfl (hdep ⟨12, .data⟩ (by simp) rfl)
          have dp := hdep ⟨13, .data⟩ (by simp) rfl
          obtain ⟨ep, k2, k3, k4, _⟩ := hF.box (t1_pt5 w x y u v s t i j) (m1_pt5 w x y u v s t i j) dp
          have HST := hF.store (ok_pt5 w x y u v s t i j) (t1_pt5 w x y u v s t i j) (m1_pt5 w x y u v s t i j) rfl dp hL
          simp only [t1_pt5, hL, Bool.false_eq_true, and_false, if_false] at k4
          have s0 := k4 0 _ rfl
          have sc0 := s0.1; have sf0 := s0.2; clear s0
          have s1 := k4 1 _ rfl
          have sc1 := s1.1; have sf1 := s1.2; clear s1
          have s2 := k4 2 _ rfl
          have sc2 := s2.1; have sf2 := s2.2; clear s2
          simp only [RG.setN, t1_pt5, Nat.zero_add] at HST ep
          simp only [e12, ep]
          clear hF k4 k2 k3 dp
          go_simp
          refine ⟨_, ?_, _, HST⟩
          simp [e12, ep]
        | jj + 15, hop => simp at hop
      · rintro LL a' WW2 hall ⟨uu, bb, rfl, hF⟩
        clear HRG0
        have e0 : uu 0 = .pointer (some ⟨w.heap.size + 1, 0, none⟩) := hF.val 0 rfl (hall 0 (by simp))
        have e1 : uu 1 = .agg #[.int .i64 u, .int .i64 v] := hF.val 1 rfl (hall 1 (by simp))
        have e2 : uu 2 = .pointer (some ⟨w.heap.size + 1, 2, none⟩) := hF.val 2 rfl (hall 2 (by simp))
        have e3 : uu 3 = .string t := hF.val 3 rfl (hall 3 (by simp))
        have e4 : uu 4 = .int .i64 (j : Int) := hF.val 4 rfl (hall 4 (by simp))
        have e5 : uu 5 = .string (t.extract 0 j) := hF.val 5 rfl (hall 5 (by simp))
        have e6 : uu 6 = .pointer (some ⟨w.heap.size, 2, none⟩) := hF.val 6 rfl (hall 6 (by simp))
        have e7 : uu 7 = .string s := hF.val 7 rfl (hall 7 (by simp))
        have e8 : uu 8 = .int .i64 (i : Int) := hF.val 8 rfl (hall 8 (by simp))
        have e9 : uu 9 = .string (s.extract i s.size) := hF.val 9 rfl (hall 9 (by simp))
        have e11 : uu 11 = .string ((t.extract 0 j) ++ (s.extract i s.size)) := hF.val 11 rfl (hall 11 (by simp))
        have e12 : uu 12 = .agg #[.int .i64 u, .int .i64 v, .string ((t.extract 0 j) ++ (s.extract i s.size))] := hF.val 12 rfl (hall 12 (by simp))
        obtain ⟨ep0, lo0, hi0, q0, _⟩ := hF.box (t0_pt5 w x y u v s t i j) (m0_pt5 w x y u v s t i j) (hall 10 (by simp))
        simp only [t0_pt5, Bool.true_eq_false, false_and, if_false] at q0
        simp only [t0_pt5] at ep0 lo0 hi0
        have bc00 := (q0 0 _ rfl).1
        have bc01 := (q0 1 _ rfl).1
        clear q0
        obtain ⟨ep1, lo1, hi1, q1, _⟩ := hF.box (t1_pt5 w x y u v s t i j) (m1_pt5 w x y u v s t i j) (hall 13 (by simp))
        simp only [t1_pt5, show LL 14 = true from hall 14 (by simp), and_self, if_true] at q1
        simp only [t1_pt5] at ep1 lo1 hi1
        have bc10 := (q1 0 _ rfl).1
        have bc11 := (q1 1 _ rfl).1
        have bc12 := (q1 2 _ rfl).1
        clear q1
        have ne01 : bb 10 ≠ bb 13 := hF.sep (t0_pt5 w x y u v s t i j) (m0_pt5 w x y u v s t i j) (t1_pt5 w x y u v s t i j) (m1_pt5 w x y u v s t i j) (by simp [t0_pt5, t1_pt5]) (hall 10 (by simp)) (hall 13 (by simp))
        have HBL := Lib.hid hF.below
        clear hF hall
        simp only [Act.put, List.setIfInBounds_toArray, List.set_cons_succ, List.set_cons_zero]
        simp only [e0, e1, e2, e3, e4, e5, e6, e7, e8, e9, e11, e12, ep0, ep1]
        clear e0 e1 e2 e3 e4 e5 e6 e7 e8 e9 e11 e12 ep0 ep1
        generalize bb 10 = b0 at *
        generalize bb 13 = b1 at *
        have HB2 := Lib.hid (HB.out.kept HBL.out)
        have hq1 := HQ1.out.1.below HBL.out
        have HQ2 : Hid (WB b1 u v (t.extract 0 j ++ s.extract i s.size) WW2) := Lib.hid ⟨bc10, bc11, bc12, hi1⟩
        have HQ1' := Lib.hid hq1
        have hl1 := HQ1.out.2
        have hl2 := Nat.lt_of_lt_of_le HB.out.lt lo1
        generalize b1 = g2 at *
        have HSD : Hid (SideR w.heap.size g1 g2 (w.heap.size + 1 + 1) (w.heap.size + 1 + 1 + 1) [.int .i64 x, .int .i64 y, .string (s.extract 0 i ++ t.extract j t.size)] [.int .i64 u, .int .i64 v, .string (t.extract 0 j ++ s.extract i s.size)] [.int .i64 0, .int .i64 0, .string ⟨#[]⟩]) := Lib.hid ⟨by omega, by omega, by omega, by omega, by omega, by omega, by omega, rfl, rfl⟩
        clear hq1 HBL HB hl1 hl2 lo1 hi1 bc10 bc11 bc12 bc00 bc01 hi0 lo0 ne01
        go_wp2_with fail
        have HR0 : R8 WW2 w.heap.size g1 g2 (w.heap.size + 1 + 1) (w.heap.size + 1 + 1 + 1) [.int .i64 x, .int .i64 y, .string (s.extract 0 i ++ t.extract j t.size)] [.int .i64 u, .int .i64 v, .string (t.extract 0 j ++ s.extract i s.size)] [.int .i64 0, .int .i64 0, .string ⟨#[]⟩] (.agg #[.int .i64 x, .int .i64 y, .string (s.extract 0 i ++ t.extract j t.size)]) (.agg #[.int .i64 u, .int .i64 v, .string (t.extract 0 j ++ s.extract i s.size)]) (fun _ => false) WW2.drew (fun _ => undef) := ⟨(Below.refl _ _).drew, ?_, ?_, ?_, ?_, (fun h => by cases h), (fun h => by cases h), (fun h => by cases h)⟩
        rotate_left
        · exact cells3 HQ1'.out.c0 HQ1'.out.c1 HQ1'.out.c2
        · exact cells3 HQ2.out.c0 HQ2.out.c1 HQ2.out.c2
        · exact HB2.out.z
        · exact HB2.out.z2
        have HRA : ∀ (a : Act), ∃ uu : Nat → Value, a = (((a.put (some 49) (uu 0)).put (some 50) (uu 1)).put (some 6) (uu 4)) ∧ R8 WW2 w.heap.size g1 g2 (w.heap.size + 1 + 1) (w.heap.size + 1 + 1 + 1) [.int .i64 x, .int .i64 y, .string (s.extract 0 i ++ t.extract j t.size)] [.int .i64 u, .int .i64 v, .string (t.extract 0 j ++ s.extract i s.size)] [.int .i64 0, .int .i64 0, .string ⟨#[]⟩] (.agg #[.int .i64 x, .int .i64 y, .string (s.extract 0 i ++ t.extract j t.size)]) (.agg #[.int .i64 u, .int .i64 v, .string (t.extract 0 j ++ s.extract i s.size)]) (fun _ => false) WW2.drew uu := fun a => ⟨fun j => a.tmps.getD (([49, 50, 0, 0, 6] : List Nat).getD j 0) undef, (by show a = (((a.put (some 49) (a.tmps.getD 49 undef)).put (some 50) (a.tmps.getD 50 undef)).put (some 6) (a.tmps.getD 6 undef)); simp only [put_same]), ⟨HR0.below, HR0.k1, HR0.k2, HR0.d1, HR0.d2, (fun h => by cases h), (fun h => by cases h), (fun h => by cases h)⟩⟩
        clear HR0
        refine wp_region_inv3 (fun a0 LL a W => ∃ uu : Nat → Value, a = (((a0.put (some 49) (uu 0)).put (some 50) (uu 1)).put (some 6) (uu 4)) ∧ R8 WW2 w.heap.size g1 g2 (w.heap.size + 1 + 1) (w.heap.size + 1 + 1 + 1) [.int .i64 x, .int .i64 y, .string (s.extract 0 i ++ t.extract j t.size)] [.int .i64 u, .int .i64 v, .string (t.extract 0 j ++ s.extract i s.size)] [.int .i64 0, .int .i64 0, .string ⟨#[]⟩] (.agg #[.int .i64 x, .int .i64 y, .string (s.extract 0 i ++ t.extract j t.size)]) (.agg #[.int .i64 u, .int .i64 v, .string (t.extract 0 j ++ s.extract i s.size)]) LL W uu) (by kernel_rfl) (by kernel_rfl) (HRA _) ?_ ?_
        · rintro jj op hop LL a' WW ⟨uu, rfl, hF⟩ hL hdep
          clear HRA
          match jj, hop with
          | 0, hop =>
            simp at hop; subst hop
            refine wpOp_run rfl rfl ?_
            simp only [Act.put, List.setIfInBounds_toArray, List.set_cons_succ, List.set_cons_zero]
            have r0 := hF.k1 0 _ rfl
            have r1 := hF.k1 1 _ rfl
            have r2 := hF.k1 2 _ rfl
            go_simp
            refine ⟨_, ?_, hF.set0⟩
            simp [upg]
          | 1, hop =>
            simp at hop; subst hop
            refine wpOp_run rfl rfl ?_
            simp only [Act.put, List.setIfInBounds_toArray, List.set_cons_succ, List.set_cons_zero]
            have r0 := hF.k2 0 _ rfl
            have r1 := hF.k2 1 _ rfl
            have r2 := hF.k2 2 _ rfl
            go_simp
            refine ⟨_, ?_, hF.set1⟩
            simp [upg]
          | 2, hop =>
            simp at hop; subst hop
            refine wpOp_run rfl rfl ?_
            simp only [Act.put, List.setIfInBounds_toArray, List.set_cons_succ, List.set_cons_zero]
            have e := hF.e0 (hdep ⟨0, .data⟩ (by simp) rfl)
            have HST := hF.st2 HSD.out hL
            have hd := hF.d1
            simp only [hL, Bool.false_eq_true, if_false] at hd
            have s0 := (hd 0 _ rfl).1; have f0 := (hd 0 _ rfl).2
            have s1 := (hd 1 _ rfl).1; have f1 := (hd 1 _ rfl).2
            have s2 := (hd 2 _ rfl).1; have f2 := (hd 2 _ rfl).2
            simp only [RG.setN, Nat.zero_add] at HST
            simp only [e]
            clear hF hd
            go_simp
            refine ⟨_, ?_, HST⟩
            simp [e]
          | 3, hop =>
            simp at hop; subst hop
            refine wpOp_run rfl rfl ?_
            simp only [Act.put, List.setIfInBounds_toArray, List.set_cons_succ, List.set_cons_zero]
            have e := hF.e1 (hdep ⟨1, .data⟩ (by simp) rfl)
            have HST := hF.st3 HSD.out hL
            have hd := hF.d2
            simp only [hL, Bool.false_eq_true, if_false] at hd
            have s0 := (hd 0 _ rfl).1; have f0 := (hd 0 _ rfl).2
            have s1 := (hd 1 _ rfl).1; have f1 := (hd 1 _ rfl).2
            have s2 := (hd 2 _ rfl).1; have f2 := (hd 2 _ rfl).2
            simp only [RG.setN, Nat.zero_add] at HST
            simp only [e]
            clear hF hd
            go_simp
            refine ⟨_, ?_, HST⟩
            simp [e]
          | 4, hop =>
            simp at hop; subst hop
            refine wpOp_run rfl rfl ?_
            simp only [Act.put, List.setIfInBounds_toArray, List.set_cons_succ, List.set_cons_zero]
            go_simp
            refine ⟨_, ?_, hF.set4⟩
            simp [upg]
          | jj + 5, hop => simp at hop
        · rintro LL a' WW3 hall ⟨uu, rfl, hF⟩
          clear HRA
          have e0 := hF.e0 (hall 0 (by simp))
          have e1 := hF.e1 (hall 1 (by simp))
          have e4 := hF.e4 (hall 4 (by simp))
          have q1 := hF.d1
          have q2 := hF.d2
          have hzb := HB2.out.below.trans hF.below
          simp only [show LL 2 = true from hall 2 (by simp), if_true] at q1
          simp only [show LL 3 = true from hall 3 (by simp), if_true] at q2
          have a0 := (q1 0 _ rfl).1
          have a1 := (q1 1 _ rfl).1
          have a2 := (q1 2 _ rfl).1
          have a3 := (q2 0 _ rfl).1
          have a4 := (q2 1 _ rfl).1
          have a5 := (q2 2 _ rfl).1
          clear hF hall q1 q2
          simp only [Act.put, List.setIfInBounds_toArray, List.set_cons_succ, List.set_cons_zero]
          simp only [e0, e1, e4]
          clear e0 e1 e4
          go_wp2_with fail
          refine bodyPost_ret (v := .tuple #[wyV (x, y, s.extract 0 i ++ t.extract j t.size), wyV (u, v, t.extract 0 j ++ s.extract i s.size), .bool true]) ?_ rfl ⟨rfl, hzb⟩
          simp [results, Try.f47, go_sem, a0, a1, a2, a3, a4, a5]
end Go.Proofs.Ytahnknbggacndaa
