/- The walk of FnExactFirstMeetingOf: it asks the model and the program about copies of two ways and holds the answers against each other. -/
import Derived.Test.YtahnknbggacndaaWwLaw
import Derived.Test.YtahnknbggacndaaRegG
namespace Go.Proofs.Ytahnknbggacndaa
open Go.RowKit
set_option linter.unusedVariables false
def e_fm8 (x y : Int) (s : ByteArray) (u v : Int) (t : ByteArray) (ok : Bool) (p q : Int) : Nat → Value
  | 0 => .agg #[.int .i64 x, .int .i64 y, .string s]
  | 1 => .agg #[.int .i64 x, .int .i64 y, .string s]
  | 2 => .agg #[.int .i64 u, .int .i64 v, .string t]
  | 3 => .agg #[.int .i64 u, .int .i64 v, .string t]
  | 4 => .tuple #[.agg #[.int .i64 p, .int .i64 q], .bool ok]
  | 5 => .tuple #[.agg #[.int .i64 p, .int .i64 q], .bool ok]
  | 6 => .agg #[.int .i64 p, .int .i64 q]
  | 7 => .bool ok
  | 10 => .bool ok
  | _ => undef
def v_fm8 (j : Nat) : Bool := ([true, true, true, true, true, true, true, true, false, false, true] : List Bool).getD j false
def t0_fm8 (x y : Int) (s : ByteArray) (u v : Int) (t : ByteArray) (ok : Bool) (p q : Int) : BoxG := ⟨8, 9, [.int .i64 0, .int .i64 0], [.int .i64 p, .int .i64 q]⟩
def b_fm8 (x y : Int) (s : ByteArray) (u v : Int) (t : ByteArray) (ok : Bool) (p q : Int) : List BoxG := [t0_fm8 x y s u v t ok p q]
theorem m0_fm8 (x y : Int) (s : ByteArray) (u v : Int) (t : ByteArray) (ok : Bool) (p q : Int) : t0_fm8 x y s u v t ok p q ∈ b_fm8 x y s u v t ok p q := by simp [b_fm8]
theorem ok_fm8 (x y : Int) (s : ByteArray) (u v : Int) (t : ByteArray) (ok : Bool) (p q : Int) : OkG v_fm8 (b_fm8 x y s u v t ok p q) := by
  refine ⟨?_, ?_, ?_, ?_, ?_, ?_⟩ <;> simp [b_fm8, v_fm8, t0_fm8]
def e_fm9 (x y : Int) (s : ByteArray) (u v : Int) (t : ByteArray) (ok : Bool) (p q : Int) : Nat → Value
  | 0 => .agg #[.int .i64 x, .int .i64 y, .string s]
  | 1 => .agg #[.int .i64 x, .int .i64 y, .string s]
  | 2 => .agg #[.int .i64 u, .int .i64 v, .string t]
  | 3 => .agg #[.int .i64 u, .int .i64 v, .string t]
  | 4 => .tuple #[.agg #[.int .i64 p, .int .i64 q], .bool ok]
  | 5 => .tuple #[.agg #[.int .i64 p, .int .i64 q], .bool ok]
  | 6 => .agg #[.int .i64 p, .int .i64 q]
  | 7 => .bool ok
  | 10 => .bool ok
  | _ => undef
def v_fm9 (j : Nat) : Bool := ([true, true, true, true, true, true, true, true, false, false, true] : List Bool).getD j false
def t0_fm9 (x y : Int) (s : ByteArray) (u v : Int) (t : ByteArray) (ok : Bool) (p q : Int) : BoxG := ⟨8, 9, [.int .i64 0, .int .i64 0], [.int .i64 p, .int .i64 q]⟩
def b_fm9 (x y : Int) (s : ByteArray) (u v : Int) (t : ByteArray) (ok : Bool) (p q : Int) : List BoxG := [t0_fm9 x y s u v t ok p q]
theorem m0_fm9 (x y : Int) (s : ByteArray) (u v : Int) (t : ByteArray) (ok : Bool) (p q : Int) : t0_fm9 x y s u v t ok p q ∈ b_fm9 x y s u v t ok p q := by simp [b_fm9]
theorem ok_fm9 (x y : Int) (s : ByteArray) (u v : Int) (t : ByteArray) (ok : Bool) (p q : Int) : OkG v_fm9 (b_fm9 x y s u v t ok p q) := by
  refine ⟨?_, ?_, ?_, ?_, ?_, ?_⟩ <;> simp [b_fm9, v_fm9, t0_fm9]
set_option maxRecDepth 100000 in
set_option maxHeartbeats 2000000 in
theorem wFnExactFirstMeetingOf_main (x y : Int) (s : ByteArray) (hs : s.size ≤ maxLen) (u v : Int) (t : ByteArray) (ht : t.size ≤ maxLen) (ok : Bool) (p q : Int)
    (hS : Hid (∀ w, Calls Try.prog 44 #[wayV x y s, wayV u v t] w (Ret w (.tuple #[.agg #[.int .i64 p, .int .i64 q], .bool ok])))) (hI : Hid (∀ w, Calls Try.prog 45 #[wayV x y s, wayV u v t] w (Ret w (.tuple #[.agg #[.int .i64 p, .int .i64 q], .bool ok])))) (w : World) :
    Calls Try.prog 10 #[wayV x y s, wayV u v t] w fun e w' => e = .returned (.bool true) ∧ Below w.heap.size w w' := by
  have HQ0 := Lib.hid (W2.new w x y u v s t 29 29)
  have HT : Hid (∀ (a b : Int) (r : ByteArray) (w : World), Calls Try.prog 25 #[.agg #[.int .i64 a, .int .i64 b, .string r]] w (Ret w (.agg #[.int .i64 a, .int .i64 b, .string r]))) := Lib.hid toWay_any
  have HZ1 := Lib.hid fun W => szWay_any x y s 1048576 W hs ⟨by omega, by omega⟩
  have hx := HQ0.out
  have r0 := hx.a.c0; have r1 := hx.a.c1; have r2 := hx.a.c2; have r3 := hx.b.c0; have r4 := hx.b.c1; have r5 := hx.b.c2
  clear hx
  by_cases hb1 : szW s 1048576 < 0
  · generalize szW s 1048576 = left at *
    go_enter Try.func10, Try.ntmps10
    go_wp2_with fail
    refine (HZ1.out _).mono ?_
    rintro e w1 ⟨rfl, hb1⟩
    have HQ1 := Lib.hid (HQ0.out.kept hb1)
    go_wp2_with fail
    go_ret
    exact ⟨rfl, HQ1.out.below⟩
  have HZ2 := Lib.hid fun W => szWay_any u v t (szW s 1048576) W ht ⟨by omega, by unfold szW at hb1 ⊢; split at hb1 <;> split <;> omega⟩
  generalize szW s 1048576 = left at *
  by_cases hb2 : szW t left < 0
  · generalize szW t left = left2 at *
    go_enter Try.func10, Try.ntmps10
    go_wp2_with fail
    refine (HZ1.out _).mono ?_
    rintro e w1 ⟨rfl, hb1⟩
    have hx := HQ0.out.kept hb1
    clear r0 r1 r2 r3 r4 r5
    have r0 := hx.a.c0; have r1 := hx.a.c1; have r2 := hx.a.c2; have r3 := hx.b.c0; have r4 := hx.b.c1; have r5 := hx.b.c2
    have HQ1 := Lib.hid hx
    clear hx
    go_wp2_with fail
    refine (HZ2.out _).mono ?_
    rintro e w2 ⟨rfl, hb2⟩
    have HQ2 := Lib.hid (HQ1.out.kept hb2)
    go_wp2_with fail
    go_ret
    exact ⟨rfl, HQ2.out.below⟩
  generalize szW t left = left2 at *
  go_enter Try.func10, Try.ntmps10
  go_wp2_with fail
  refine (HZ1.out _).mono ?_
  rintro e w1 ⟨rfl, hb1⟩
  have hx := HQ0.out.kept hb1
  clear r0 r1 r2 r3 r4 r5
  have r0 := hx.a.c0; have r1 := hx.a.c1; have r2 := hx.a.c2; have r3 := hx.b.c0; have r4 := hx.b.c1; have r5 := hx.b.c2
  have HQ1 := Lib.hid hx
  clear hx hb1
  go_wp2_with fail
  refine (HZ2.out _).mono ?_
  rintro e w2 ⟨rfl, hb2⟩
  have HQ := Lib.hid (HQ1.out.kept hb2)
  clear r0 r1 r2 r3 r4 r5 hb2 HZ1 HZ2
  go_wp2_with fail
  have HRG0 : ∀ (a : Act) (ww : World), ∃ uu : Nat → Value, a = ((((((((((a.put (some 21) (uu 0)).put (some 22) (uu 1)).put (some 23) (uu 2)).put (some 24) (uu 3)).put (some 25) (uu 4)).put (some 20) (uu 5)).put (some 26) (uu 6)).put (some 27) (uu 7)).put (some 6) (uu 8)).put (some 7) (uu 10)) ∧ RG ww (e_fm8 x y s u v t ok p q) v_fm8 (b_fm8 x y s u v t ok p q) (fun _ => false) ww.drew uu := fun a ww => ⟨fun j => a.tmps.getD (([21, 22, 23, 24, 25, 20, 26, 27, 6, 0, 7] : List Nat).getD j 0) undef, (by show a = ((((((((((a.put (some 21) (a.tmps.getD 21 undef)).put (some 22) (a.tmps.getD 22 undef)).put (some 23) (a.tmps.getD 23 undef)).put (some 24) (a.tmps.getD 24 undef)).put (some 25) (a.tmps.getD 25 undef)).put (some 20) (a.tmps.getD 20 undef)).put (some 26) (a.tmps.getD 26 undef)).put (some 27) (a.tmps.getD 27 undef)).put (some 6) (a.tmps.getD 6 undef)).put (some 7) (a.tmps.getD 7 undef)); simp only [put_same]), RG.start _ _⟩
  refine wp_region_inv3 (fun a0 LL a W => ∃ uu : Nat → Value, a = ((((((((((a0.put (some 21) (uu 0)).put (some 22) (uu 1)).put (some 23) (uu 2)).put (some 24) (uu 3)).put (some 25) (uu 4)).put (some 20) (uu 5)).put (some 26) (uu 6)).put (some 27) (uu 7)).put (some 6) (uu 8)).put (some 7) (uu 10)) ∧ RG w2 (e_fm8 x y s u v t ok p q) v_fm8 (b_fm8 x y s u v t ok p q) LL W uu) (by kernel_rfl) (by kernel_rfl) (HRG0 _ _) ?_ ?_
  · rintro jj op hop LL a' WW ⟨uu, rfl, hF⟩ hL hdep
    clear HRG0
    match jj, hop with
    | 0, hop =>
      simp at hop; subst hop
      refine wpOp_run rfl rfl ?_
      simp only [Act.put, List.setIfInBounds_toArray, List.set_cons_succ, List.set_cons_zero]
      have r0 := (hF.below.cell (p := ⟨w.heap.size, 0, none⟩) HQ.out.a.lt).trans HQ.out.a.c0
      have r1 := (hF.below.cell (p := ⟨w.heap.size, 1, none⟩) HQ.out.a.lt).trans HQ.out.a.c1
      have r2 := (hF.below.cell (p := ⟨w.heap.size, 2, none⟩) HQ.out.a.lt).trans HQ.out.a.c2
      go_simp
      refine ⟨_, ?_, hF.setv (ok_fm8 x y s u v t ok p q) 0 rfl (.agg #[.int .i64 x, .int .i64 y, .string s]) rfl⟩
      simp [upg]
    | 1, hop =>
      simp at hop; subst hop
      refine wpOp_run rfl rfl ?_
      simp only [Act.put, List.setIfInBounds_toArray, List.set_cons_succ, List.set_cons_zero]
      have e0 : uu 0 = .agg #[.int .i64 x, .int .i64 y, .string s] := hF.val 0 rfl (hdep ⟨0, .data⟩ (by simp) rfl)
      simp only [e0]
      go_simp
      go_at_call 25
      refine (HT.out _ _ _ _).mono ?_
      rintro en w' ⟨rfl, hbC⟩
      refine ⟨_, ?_, (hF.kept hbC).setv (ok_fm8 x y s u v t ok p q) 1 rfl (.agg #[.int .i64 x, .int .i64 y, .string s]) rfl⟩
      simp [upg, e0]
    | 2, hop =>
      simp at hop; subst hop
      refine wpOp_run rfl rfl ?_
      simp only [Act.put, List.setIfInBounds_toArray, List.set_cons_succ, List.set_cons_zero]
      have r0 := (hF.below.cell (p := ⟨w.heap.size + 1, 0, none⟩) HQ.out.b.lt).trans HQ.out.b.c0
      have r1 := (hF.below.cell (p := ⟨w.heap.size + 1, 1, none⟩) HQ.out.b.lt).trans HQ.out.b.c1
      have r2 := (hF.below.cell (p := ⟨w.heap.size + 1, 2, none⟩) HQ.out.b.lt).trans HQ.out.b.c2
      go_simp
      refine ⟨_, ?_, hF.setv (ok_fm8 x y s u v t ok p q) 2 rfl (.agg #[.int .i64 u, .int .i64 v, .string t]) rfl⟩
      simp [upg]
    | 3, hop =>
      simp at hop; subst hop
      refine wpOp_run rfl rfl ?_
      simp only [Act.put, List.setIfInBounds_toArray, List.set_cons_succ, List.set_cons_zero]
      have e2 : uu 2 = .agg #[.int .i64 u, .int .i64 v, .string t] := hF.val 2 rfl (hdep ⟨2, .data⟩ (by simp) rfl)
      simp only [e2]
      go_simp
      go_at_call 25
      refine (HT.out _ _ _ _).mono ?_
      rintro en w' ⟨rfl, hbC⟩
      refine ⟨_, ?_, (hF.kept hbC).setv (ok_fm8 x y s u v t ok p q) 3 rfl (.agg #[.int .i64 u, .int .i64 v, .string t]) rfl⟩
      simp [upg, e2]
    | 4, hop =>
      simp at hop; subst hop
      refine wpOp_run rfl rfl ?_
      simp only [Act.put, List.setIfInBounds_toArray, List.set_cons_succ, List.set_cons_zero]
      have e1 : uu 1 = .agg #[.int .i64 x, .int .i64 y, .string s] := hF.val 1 rfl (hdep ⟨1, .data⟩ (by simp) rfl)
      have e3 : uu 3 = .agg #[.int .i64 u, .int .i64 v, .string t] := hF.val 3 rfl (hdep ⟨3, .data⟩ (by simp) rfl)
      simp only [e1, e3]
      go_simp
      go_at_call 44
      refine (hS.out _).mono ?_
      rintro en w' ⟨rfl, hbC⟩
      refine ⟨_, ?_, (hF.kept hbC).setv (ok_fm8 x y s u v t ok p q) 4 rfl (.tuple #[.agg #[.int .i64 p, .int .i64 q], .bool ok]) rfl⟩
      simp [upg, e1, e3]
    | 5, hop =>
      simp at hop; subst hop
      refine wpOp_run rfl rfl ?_
      simp only [Act.put, List.setIfInBounds_toArray, List.set_cons_succ, List.set_cons_zero]
      have e4 : uu 4 = .tuple #[.agg #[.int .i64 p, .int .i64 q], .bool ok] := hF.val 4 rfl (hdep ⟨4, .data⟩ (by simp) rfl)
      simp only [e4]
      go_simp
      refine ⟨_, ?_, hF.setv (ok_fm8 x y s u v t ok p q) 5 rfl (.tuple #[.agg #[.int .i64 p, .int .i64 q], .bool ok]) rfl⟩
      simp [upg, e4]
    | 6, hop =>
      simp at hop; subst hop
      refine wpOp_run rfl rfl ?_
      simp only [Act.put, List.setIfInBounds_toArray, List.set_cons_succ, List.set_cons_zero]
      have e5 : uu 5 = .tuple #[.agg #[.int .i64 p, .int .i64 q], .bool ok] := hF.val 5 rfl (hdep ⟨5, .data⟩ (by simp) rfl)
      simp only [e5]
      go_simp
      refine ⟨_, ?_, hF.setv (ok_fm8 x y s u v t ok p q) 6 rfl (.agg #[.int .i64 p, .int .i64 q]) rfl⟩
      simp [upg, e5]
    | 7, hop =>
      simp at hop; subst hop
      refine wpOp_run rfl rfl ?_
      simp only [Act.put, List.setIfInBounds_toArray, List.set_cons_succ, List.set_cons_zero]
      have e5 : uu 5 = .tuple #[.agg #[.int .i64 p, .int .i64 q], .bool ok] := hF.val 5 rfl (hdep ⟨5, .data⟩ (by simp) rfl)
      simp only [e5]
      go_simp
      refine ⟨_, ?_, hF.setv (ok_fm8 x y s u v t ok p q) 7 rfl (.bool ok) rfl⟩
      simp [upg, e5]
    | 8, hop =>
      simp at hop; subst hop
      refine wpOp_run rfl rfl ?_
      simp only [Act.put, List.setIfInBounds_toArray, List.set_cons_succ, List.set_cons_zero]
      have HAL := hF.alloc (ok_fm8 x y s u v t ok p q) (t0_fm8 x y s u v t ok p q) (m0_fm8 x y s u v t ok p q) hL
      simp only [t0_fm8] at HAL
      go_simp
      refine ⟨_, ?_, HAL _⟩
      simp [upg]
    | 9, hop =>
      simp at hop; subst hop
      refine wpOp_run rfl rfl ?_
      simp only [Act.put, List.setIfInBounds_toArray, List.set_cons_succ, List.set_cons_zero]
      have e6 : uu 6 = .agg #[.int .i64 p, .int .i64 q] := hF.val 6 rfl (hdep ⟨6, .data⟩ (by simp) rfl)
      have dp := hdep ⟨8, .data⟩ (by simp) rfl
      obtain ⟨b, ep, k2, k3, k4⟩ := hF.box (t0_fm8 x y s u v t ok p q) (m0_fm8 x y s u v t ok p q) dp
      have HST := hF.store (ok_fm8 x y s u v t ok p q) (t0_fm8 x y s u v t ok p q) (m0_fm8 x y s u v t ok p q) ep dp hL
      simp only [t0_fm8, hL, Bool.false_eq_true, if_false] at k4
      have s0 := k4 0 _ rfl
      have sc0 := s0.1; have sf0 := s0.2; clear s0
      have s1 := k4 1 _ rfl
      have sc1 := s1.1; have sf1 := s1.2; clear s1
      simp only [RG.setN, t0_fm8, Nat.zero_add] at HST ep
      simp only [e6, ep]
      clear hF k4 k2 k3 dp
      go_simp
      refine ⟨_, ?_, HST⟩
      simp [e6, ep]
    | 10, hop =>
      simp at hop; subst hop
      refine wpOp_run rfl rfl ?_
      simp only [Act.put, List.setIfInBounds_toArray, List.set_cons_succ, List.set_cons_zero]
      have e7 : uu 7 = .bool ok := hF.val 7 rfl (hdep ⟨7, .data⟩ (by simp) rfl)
      simp only [e7]
      go_simp
      refine ⟨_, ?_, hF.setv (ok_fm8 x y s u v t ok p q) 10 rfl (.bool ok) rfl⟩
      simp [upg, e7]
    | jj + 11, hop => simp at hop
  · rintro LL a' WW hall ⟨uu, rfl, hF⟩
    clear HRG0
    have e0 : uu 0 = .agg #[.int .i64 x, .int .i64 y, .string s] := hF.val 0 rfl (hall 0 (by simp))
    have e1 : uu 1 = .agg #[.int .i64 x, .int .i64 y, .string s] := hF.val 1 rfl (hall 1 (by simp))
    have e2 : uu 2 = .agg #[.int .i64 u, .int .i64 v, .string t] := hF.val 2 rfl (hall 2 (by simp))
    have e3 : uu 3 = .agg #[.int .i64 u, .int .i64 v, .string t] := hF.val 3 rfl (hall 3 (by simp))
    have e4 : uu 4 = .tuple #[.agg #[.int .i64 p, .int .i64 q], .bool ok] := hF.val 4 rfl (hall 4 (by simp))
    have e5 : uu 5 = .tuple #[.agg #[.int .i64 p, .int .i64 q], .bool ok] := hF.val 5 rfl (hall 5 (by simp))
    have e6 : uu 6 = .agg #[.int .i64 p, .int .i64 q] := hF.val 6 rfl (hall 6 (by simp))
    have e7 : uu 7 = .bool ok := hF.val 7 rfl (hall 7 (by simp))
    have e10 : uu 10 = .bool ok := hF.val 10 rfl (hall 10 (by simp))
    obtain ⟨b0, ep0, lo0, hi0, q0⟩ := hF.box (t0_fm8 x y s u v t ok p q) (m0_fm8 x y s u v t ok p q) (hall 8 (by simp))
    simp only [t0_fm8, show LL 9 = true from hall 9 (by simp), if_true] at q0
    simp only [t0_fm8] at ep0
    have bc00 := (q0 0 _ rfl).1
    have bc01 := (q0 1 _ rfl).1
    clear q0
    have HBL := Lib.hid hF.below
    clear hF hall
    simp only [Act.put, List.setIfInBounds_toArray, List.set_cons_succ, List.set_cons_zero]
    simp only [e0, e1, e2, e3, e4, e5, e6, e7, e10, ep0]
    clear e0 e1 e2 e3 e4 e5 e6 e7 e10 ep0
    have HQ2 := Lib.hid (HQ.out.kept HBL.out)
    have HB0 : Hid (QB b0 p q WW) := Lib.hid ⟨bc00, bc01, hi0⟩
    clear bc00 bc01 HBL
    go_wp2_with fail
    have HRG0 : ∀ (a : Act) (ww : World), ∃ uu : Nat → Value, a = ((((((((((a.put (some 29) (uu 0)).put (some 30) (uu 1)).put (some 31) (uu 2)).put (some 32) (uu 3)).put (some 33) (uu 4)).put (some 28) (uu 5)).put (some 34) (uu 6)).put (some 35) (uu 7)).put (some 8) (uu 8)).put (some 9) (uu 10)) ∧ RG ww (e_fm9 x y s u v t ok p q) v_fm9 (b_fm9 x y s u v t ok p q) (fun _ => false) ww.drew uu := fun a ww => ⟨fun j => a.tmps.getD (([29, 30, 31, 32, 33, 28, 34, 35, 8, 0, 9] : List Nat).getD j 0) undef, (by show a = ((((((((((a.put (some 29) (a.tmps.getD 29 undef)).put (some 30) (a.tmps.getD 30 undef)).put (some 31) (a.tmps.getD 31 undef)).put (some 32) (a.tmps.getD 32 undef)).put (some 33) (a.tmps.getD 33 undef)).put (some 28) (a.tmps.getD 28 undef)).put (some 34) (a.tmps.getD 34 undef)).put (some 35) (a.tmps.getD 35 undef)).put (some 8) (a.tmps.getD 8 undef)).put (some 9) (a.tmps.getD 9 undef)); simp only [put_same]), RG.start _ _⟩
    refine wp_region_inv3 (fun a0 LL a W => ∃ uu : Nat → Value, a = ((((((((((a0.put (some 29) (uu 0)).put (some 30) (uu 1)).put (some 31) (uu 2)).put (some 32) (uu 3)).put (some 33) (uu 4)).put (some 28) (uu 5)).put (some 34) (uu 6)).put (some 35) (uu 7)).put (some 8) (uu 8)).put (some 9) (uu 10)) ∧ RG WW (e_fm9 x y s u v t ok p q) v_fm9 (b_fm9 x y s u v t ok p q) LL W uu) (by kernel_rfl) (by kernel_rfl) (HRG0 _ _) ?_ ?_
    · rintro jj op hop LL a' W2 ⟨uu, rfl, hF⟩ hL hdep
      clear HRG0
      match jj, hop with
      | 0, hop =>
        simp at hop; subst hop
        refine wpOp_run rfl rfl ?_
        simp only [Act.put, List.setIfInBounds_toArray, List.set_cons_succ, List.set_cons_zero]
        have r0 := (hF.below.cell (p := ⟨w.heap.size, 0, none⟩) HQ2.out.a.lt).trans HQ2.out.a.c0
        have r1 := (hF.below.cell (p := ⟨w.heap.size, 1, none⟩) HQ2.out.a.lt).trans HQ2.out.a.c1
        have r2 := (hF.below.cell (p := ⟨w.heap.size, 2, none⟩) HQ2.out.a.lt).trans HQ2.out.a.c2
        go_simp
        refine ⟨_, ?_, hF.setv (ok_fm9 x y s u v t ok p q) 0 rfl (.agg #[.int .i64 x, .int .i64 y, .string s]) rfl⟩
        simp [upg]
      | 1, hop =>
        simp at hop; subst hop
        refine wpOp_run rfl rfl ?_
        simp only [Act.put, List.setIfInBounds_toArray, List.set_cons_succ, List.set_cons_zero]
        have e0 : uu 0 = .agg #[.int .i64 x, .int .i64 y, .string s] := hF.val 0 rfl (hdep ⟨0, .data⟩ (by simp) rfl)
        simp only [e0]
        go_simp
        go_at_call 25
        refine (HT.out _ _ _ _).mono ?_
        rintro en w' ⟨rfl, hbC⟩
        refine ⟨_, ?_, (hF.kept hbC).setv (ok_fm9 x y s u v t ok p q) 1 rfl (.agg #[.int .i64 x, .int .i64 y, .string s]) rfl⟩
        simp [upg, e0]
      | 2, hop =>
        simp at hop; subst hop
        refine wpOp_run rfl rfl ?_
        simp only [Act.put, List.setIfInBounds_toArray, List.set_cons_succ, List.set_cons_zero]
        have r0 := (hF.below.cell (p := ⟨w.heap.size + 1, 0, none⟩) HQ2.out.b.lt).trans HQ2.out.b.c0
        have r1 := (hF.below.cell (p := ⟨w.heap.size + 1, 1, none⟩) HQ2.out.b.lt).trans HQ2.out.b.c1
        have r2 := (hF.below.cell (p := ⟨w.heap.size + 1, 2, none⟩) HQ2.out.b.lt).trans HQ2.out.b.c2
        go_simp
        refine ⟨_, ?_, hF.setv (ok_fm9 x y s u v t ok p q) 2 rfl (.agg #[.int .i64 u, .int .i64 v, .string t]) rfl⟩
        simp [upg]
      | 3, hop =>
        simp at hop; subst hop
        refine wpOp_run rfl rfl ?_
        simp only [Act.put, List.setIfInBounds_toArray, List.set_cons_succ, List.set_cons_zero]
        have e2 : uu 2 = .agg #[.int .i64 u, .int .i64 v, .string t] := hF.val 2 rfl (hdep ⟨2, .data⟩ (by simp) rfl)
        simp only [e2]
        go_simp
        go_at_call 25
        refine (HT.out _ _ _ _).mono ?_
        rintro en w' ⟨rfl, hbC⟩
        refine ⟨_, ?_, (hF.kept hbC).setv (ok_fm9 x y s u v t ok p q) 3 rfl (.agg #[.int .i64 u, .int .i64 v, .string t]) rfl⟩
        simp [upg, e2]
      | 4, hop =>
        simp at hop; subst hop
        refine wpOp_run rfl rfl ?_
        simp only [Act.put, List.setIfInBounds_toArray, List.set_cons_succ, List.set_cons_zero]
        have e1 : uu 1 = .agg #[.int .i64 x, .int .i64 y, .string s] := hF.val 1 rfl (hdep ⟨1, .data⟩ (by simp) rfl)
        have e3 : uu 3 = .agg #[.int .i64 u, .int .i64 v, .string t] := hF.val 3 rfl (hdep ⟨3, .data⟩ (by simp) rfl)
        simp only [e1, e3]
        go_simp
        go_at_call 45
        refine (hI.out _).mono ?_
        rintro en w' ⟨rfl, hbC⟩
        refine ⟨_, ?_, (hF.kept hbC).setv (ok_fm9 x y s u v t ok p q) 4 rfl (.tuple #[.agg #[.int .i64 p, .int .i64 q], .bool ok]) rfl⟩
        simp [upg, e1, e3]
      | 5, hop =>
        simp at hop; subst hop
        refine wpOp_run rfl rfl ?_
        simp only [Act.put, List.setIfInBounds_toArray, List.set_cons_succ, List.set_cons_zero]
        have e4 : uu 4 = .tuple #[.agg #[.int .i64 p, .int .i64 q], .bool ok] := hF.val 4 rfl (hdep ⟨4, .data⟩ (by simp) rfl)
        simp only [e4]
        go_simp
        refine ⟨_, ?_, hF.setv (ok_fm9 x y s u v t ok p q) 5 rfl (.tuple #[.agg #[.int .i64 p, .int .i64 q], .bool ok]) rfl⟩
        simp [upg, e4]
      | 6, hop =>
        simp at hop; subst hop
        refine wpOp_run rfl rfl ?_
        simp only [Act.put, List.setIfInBounds_toArray, List.set_cons_succ, List.set_cons_zero]
        have e5 : uu 5 = .tuple #[.agg #[.int .i64 p, .int .i64 q], .bool ok] := hF.val 5 rfl (hdep ⟨5, .data⟩ (by simp) rfl)
        simp only [e5]
        go_simp
        refine ⟨_, ?_, hF.setv (ok_fm9 x y s u v t ok p q) 6 rfl (.agg #[.int .i64 p, .int .i64 q]) rfl⟩
        simp [upg, e5]
      | 7, hop =>
        simp at hop; subst hop
        refine wpOp_run rfl rfl ?_
        simp only [Act.put, List.setIfInBounds_toArray, List.set_cons_succ, List.set_cons_zero]
        have e5 : uu 5 = .tuple #[.agg #[.int .i64 p, .int .i64 q], .bool ok] := hF.val 5 rfl (hdep ⟨5, .data⟩ (by simp) rfl)
        simp only [e5]
        go_simp
        refine ⟨_, ?_, hF.setv (ok_fm9 x y s u v t ok p q) 7 rfl (.bool ok) rfl⟩
        simp [upg, e5]
      | 8, hop =>
        simp at hop; subst hop
        refine wpOp_run rfl rfl ?_
        simp only [Act.put, List.setIfInBounds_toArray, List.set_cons_succ, List.set_cons_zero]
        have HAL := hF.alloc (ok_fm9 x y s u v t ok p q) (t0_fm9 x y s u v t ok p q) (m0_fm9 x y s u v t ok p q) hL
        simp only [t0_fm9] at HAL
        go_simp
        refine ⟨_, ?_, HAL _⟩
        simp [upg]
      | 9, hop =>
        simp at hop; subst hop
        refine wpOp_run rfl rfl ?_
        simp only [Act.put, List.setIfInBounds_toArray, List.set_cons_succ, List.set_cons_zero]
        have e6 : uu 6 = .agg #[.int .i64 p, .int .i64 q] := hF.val 6 rfl (hdep ⟨6, .data⟩ (by simp) rfl)
        have dp := hdep ⟨8, .data⟩ (by simp) rfl
        obtain ⟨b, ep, k2, k3, k4⟩ := hF.box (t0_fm9 x y s u v t ok p q) (m0_fm9 x y s u v t ok p q) dp
        have HST := hF.store (ok_fm9 x y s u v t ok p q) (t0_fm9 x y s u v t ok p q) (m0_fm9 x y s u v t ok p q) ep dp hL
        simp only [t0_fm9, hL, Bool.false_eq_true, if_false] at k4
        have s0 := k4 0 _ rfl
        have sc0 := s0.1; have sf0 := s0.2; clear s0
        have s1 := k4 1 _ rfl
        have sc1 := s1.1; have sf1 := s1.2; clear s1
        simp only [RG.setN, t0_fm9, Nat.zero_add] at HST ep
        simp only [e6, ep]
        clear hF k4 k2 k3 dp
        go_simp
        refine ⟨_, ?_, HST⟩
        simp [e6, ep]
      | 10, hop =>
        simp at hop; subst hop
        refine wpOp_run rfl rfl ?_
        simp only [Act.put, List.setIfInBounds_toArray, List.set_cons_succ, List.set_cons_zero]
        have e7 : uu 7 = .bool ok := hF.val 7 rfl (hdep ⟨7, .data⟩ (by simp) rfl)
        simp only [e7]
        go_simp
        refine ⟨_, ?_, hF.setv (ok_fm9 x y s u v t ok p q) 10 rfl (.bool ok) rfl⟩
        simp [upg, e7]
      | jj + 11, hop => simp at hop
    · rintro LL a' W2 hall ⟨uu, rfl, hF⟩
      clear HRG0
      have e0 : uu 0 = .agg #[.int .i64 x, .int .i64 y, .string s] := hF.val 0 rfl (hall 0 (by simp))
      have e1 : uu 1 = .agg #[.int .i64 x, .int .i64 y, .string s] := hF.val 1 rfl (hall 1 (by simp))
      have e2 : uu 2 = .agg #[.int .i64 u, .int .i64 v, .string t] := hF.val 2 rfl (hall 2 (by simp))
      have e3 : uu 3 = .agg #[.int .i64 u, .int .i64 v, .string t] := hF.val 3 rfl (hall 3 (by simp))
      have e4 : uu 4 = .tuple #[.agg #[.int .i64 p, .int .i64 q], .bool ok] := hF.val 4 rfl (hall 4 (by simp))
      have e5 : uu 5 = .tuple #[.agg #[.int .i64 p, .int .i64 q], .bool ok] := hF.val 5 rfl (hall 5 (by simp))
      have e6 : uu 6 = .agg #[.int .i64 p, .int .i64 q] := hF.val 6 rfl (hall 6 (by simp))
      have e7 : uu 7 = .bool ok := hF.val 7 rfl (hall 7 (by simp))
      have e10 : uu 10 = .bool ok := hF.val 10 rfl (hall 10 (by simp))
      obtain ⟨b1, ep0, lo1, hi1, q0⟩ := hF.box (t0_fm9 x y s u v t ok p q) (m0_fm9 x y s u v t ok p q) (hall 8 (by simp))
      simp only [t0_fm9, show LL 9 = true from hall 9 (by simp), if_true] at q0
      simp only [t0_fm9] at ep0
      have bc00 := (q0 0 _ rfl).1
      have bc01 := (q0 1 _ rfl).1
      clear q0
      have HBL := Lib.hid hF.below
      clear hF hall
      simp only [Act.put, List.setIfInBounds_toArray, List.set_cons_succ, List.set_cons_zero]
      simp only [e0, e1, e2, e3, e4, e5, e6, e7, e10, ep0]
      clear e0 e1 e2 e3 e4 e5 e6 e7 e10 ep0
      have HQ3 := Lib.hid (HQ2.out.kept HBL.out)
      have hB := HB0.out.below HBL.out
      clear HBL
      have d0 := hB.c0
      have d1 := hB.c1
      clear hB
      go_wp2_with fail
      refine (eqCell_any p q _).mono ?_
      rintro e w5 ⟨rfl, hb5⟩
      have HQ5 := Lib.hid (HQ3.out.kept hb5)
      clear hb5 d0 d1 bc00 bc01
      go_wp2_with fail
      go_ret
      exact ⟨rfl, HQ5.out.below⟩
end Go.Proofs.Ytahnknbggacndaa
