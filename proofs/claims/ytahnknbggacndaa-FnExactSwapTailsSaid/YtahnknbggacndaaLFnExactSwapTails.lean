/- The walk of FnExactSwapTails: it asks the model and the program about copies of two ways and holds the answers against each other. -/
import Derived.Test.YtahnknbggacndaaWwLaw
import Derived.Test.YtahnknbggacndaaRegG
namespace Go.Proofs.Ytahnknbggacndaa
open Go.RowKit
set_option linter.unusedVariables false
def e_sl8 (x y : Int) (s : ByteArray) (u v : Int) (t : ByteArray) (ok : Bool) (p q p' q' : Int) (r r' : ByteArray) : Nat → Value
  | 0 => .agg #[.int .i64 x, .int .i64 y, .string s]
  | 1 => .agg #[.int .i64 x, .int .i64 y, .string s]
  | 2 => .agg #[.int .i64 u, .int .i64 v, .string t]
  | 3 => .agg #[.int .i64 u, .int .i64 v, .string t]
  | 4 => .tuple #[.agg #[.int .i64 p, .int .i64 q, .string r], .agg #[.int .i64 p', .int .i64 q', .string r'], .bool ok]
  | 5 => .tuple #[.agg #[.int .i64 p, .int .i64 q, .string r], .agg #[.int .i64 p', .int .i64 q', .string r'], .bool ok]
  | 6 => .agg #[.int .i64 p, .int .i64 q, .string r]
  | 7 => .agg #[.int .i64 p', .int .i64 q', .string r']
  | 8 => .bool ok
  | 13 => .bool ok
  | _ => undef
def v_sl8 (j : Nat) : Bool := ([true, true, true, true, true, true, true, true, true, false, false, false, false, true] : List Bool).getD j false
def t0_sl8 (x y : Int) (s : ByteArray) (u v : Int) (t : ByteArray) (ok : Bool) (p q p' q' : Int) (r r' : ByteArray) : BoxG := ⟨9, 11, false, fun b => .pointer (some ⟨b, 0, none⟩), 33, [.int .i64 0, .int .i64 0, .string ⟨#[]⟩], [.int .i64 p, .int .i64 q, .string r]⟩
def t1_sl8 (x y : Int) (s : ByteArray) (u v : Int) (t : ByteArray) (ok : Bool) (p q p' q' : Int) (r r' : ByteArray) : BoxG := ⟨10, 12, false, fun b => .pointer (some ⟨b, 0, none⟩), 33, [.int .i64 0, .int .i64 0, .string ⟨#[]⟩], [.int .i64 p', .int .i64 q', .string r']⟩
def b_sl8 (x y : Int) (s : ByteArray) (u v : Int) (t : ByteArray) (ok : Bool) (p q p' q' : Int) (r r' : ByteArray) : List BoxG := [t0_sl8 x y s u v t ok p q p' q' r r', t1_sl8 x y s u v t ok p q p' q' r r']
theorem m0_sl8 (x y : Int) (s : ByteArray) (u v : Int) (t : ByteArray) (ok : Bool) (p q p' q' : Int) (r r' : ByteArray) : t0_sl8 x y s u v t ok p q p' q' r r' ∈ b_sl8 x y s u v t ok p q p' q' r r' := by simp [b_sl8]
theorem m1_sl8 (x y : Int) (s : ByteArray) (u v : Int) (t : ByteArray) (ok : Bool) (p q p' q' : Int) (r r' : ByteArray) : t1_sl8 x y s u v t ok p q p' q' r r' ∈ b_sl8 x y s u v t ok p q p' q' r r' := by simp [b_sl8]
theorem ok_sl8 (x y : Int) (s : ByteArray) (u v : Int) (t : ByteArray) (ok : Bool) (p q p' q' : Int) (r r' : ByteArray) : OkG v_sl8 (b_sl8 x y s u v t ok p q p' q' r r') := by
  refine ⟨?_, ?_, ?_, ?_, ?_, ?_⟩ <;> simp [b_sl8, v_sl8, t0_sl8, t1_sl8]
def e_sl9 (x y : Int) (s : ByteArray) (u v : Int) (t : ByteArray) (ok : Bool) (p q p' q' : Int) (r r' : ByteArray) : Nat → Value
  | 0 => .agg #[.int .i64 x, .int .i64 y, .string s]
  | 1 => .agg #[.int .i64 x, .int .i64 y, .string s]
  | 2 => .agg #[.int .i64 u, .int .i64 v, .string t]
  | 3 => .agg #[.int .i64 u, .int .i64 v, .string t]
  | 4 => .tuple #[.agg #[.int .i64 p, .int .i64 q, .string r], .agg #[.int .i64 p', .int .i64 q', .string r'], .bool ok]
  | 5 => .tuple #[.agg #[.int .i64 p, .int .i64 q, .string r], .agg #[.int .i64 p', .int .i64 q', .string r'], .bool ok]
  | 6 => .agg #[.int .i64 p, .int .i64 q, .string r]
  | 7 => .agg #[.int .i64 p', .int .i64 q', .string r']
  | 8 => .bool ok
  | 13 => .bool ok
  | _ => undef
def v_sl9 (j : Nat) : Bool := ([true, true, true, true, true, true, true, true, true, false, false, false, false, true] : List Bool).getD j false
def t0_sl9 (x y : Int) (s : ByteArray) (u v : Int) (t : ByteArray) (ok : Bool) (p q p' q' : Int) (r r' : ByteArray) : BoxG := ⟨9, 11, false, fun b => .pointer (some ⟨b, 0, none⟩), 33, [.int .i64 0, .int .i64 0, .string ⟨#[]⟩], [.int .i64 p, .int .i64 q, .string r]⟩
def t1_sl9 (x y : Int) (s : ByteArray) (u v : Int) (t : ByteArray) (ok : Bool) (p q p' q' : Int) (r r' : ByteArray) : BoxG := ⟨10, 12, false, fun b => .pointer (some ⟨b, 0, none⟩), 33, [.int .i64 0, .int .i64 0, .string ⟨#[]⟩], [.int .i64 p', .int .i64 q', .string r']⟩
def b_sl9 (x y : Int) (s : ByteArray) (u v : Int) (t : ByteArray) (ok : Bool) (p q p' q' : Int) (r r' : ByteArray) : List BoxG := [t0_sl9 x y s u v t ok p q p' q' r r', t1_sl9 x y s u v t ok p q p' q' r r']
theorem m0_sl9 (x y : Int) (s : ByteArray) (u v : Int) (t : ByteArray) (ok : Bool) (p q p' q' : Int) (r r' : ByteArray) : t0_sl9 x y s u v t ok p q p' q' r r' ∈ b_sl9 x y s u v t ok p q p' q' r r' := by simp [b_sl9]
theorem m1_sl9 (x y : Int) (s : ByteArray) (u v : Int) (t : ByteArray) (ok : Bool) (p q p' q' : Int) (r r' : ByteArray) : t1_sl9 x y s u v t ok p q p' q' r r' ∈ b_sl9 x y s u v t ok p q p' q' r r' := by simp [b_sl9]
theorem ok_sl9 (x y : Int) (s : ByteArray) (u v : Int) (t : ByteArray) (ok : Bool) (p q p' q' : Int) (r r' : ByteArray) : OkG v_sl9 (b_sl9 x y s u v t ok p q p' q' r r') := by
  refine ⟨?_, ?_, ?_, ?_, ?_, ?_⟩ <;> simp [b_sl9, v_sl9, t0_sl9, t1_sl9]
set_option maxRecDepth 100000 in
set_option maxHeartbeats 8000000 in
theorem wFnExactSwapTails_main (x y : Int) (s : ByteArray) (hs : s.size ≤ maxLen) (u v : Int) (t : ByteArray) (ht : t.size ≤ maxLen) (ok : Bool) (p q p' q' : Int) (r r' : ByteArray)
    (hS : Hid (∀ w, Calls Try.prog 46 #[wayV x y s, wayV u v t] w (Ret w (.tuple #[.agg #[.int .i64 p, .int .i64 q, .string r], .agg #[.int .i64 p', .int .i64 q', .string r'], .bool ok])))) (hI : Hid (∀ w, Calls Try.prog 47 #[wayV x y s, wayV u v t] w (Ret w (.tuple #[.agg #[.int .i64 p, .int .i64 q, .string r], .agg #[.int .i64 p', .int .i64 q', .string r'], .bool ok])))) (w : World) :
    Calls Try.prog 11 #[wayV x y s, wayV u v t] w fun e w' => e = .returned (.bool true) ∧ Below w.heap.size w w' := by
  have HQ0 := Lib.hid (W2.new w x y u v s t 29 29)
  have HT : Hid (∀ (a b : Int) (r : ByteArray) (w : World), Calls Try.prog 25 #[.agg #[.int .i64 a, .int .i64 b, .string r]] w (Ret w (.agg #[.int .i64 a, .int .i64 b, .string r]))) := Lib.hid toWay_any
  have HZ1 := Lib.hid fun W => szWay_any x y s 1048576 W hs ⟨by omega, by omega⟩
  have hx := HQ0.out
  have r0 := hx.a.c0; have r1 := hx.a.c1; have r2 := hx.a.c2; have r3 := hx.b.c0; have r4 := hx.b.c1; have r5 := hx.b.c2
  clear hx
  by_cases hb1 : szW s 1048576 < 0
  · generalize szW s 1048576 = left at *
    go_enter Try.func11, Try.ntmps11
    go_wp2_with fail
    refine (HZ1.out _).mono ?_
    rintro e w1 ⟨rfl, hb1⟩
    have HQ1 := Lib.hid (HQ0.out.kept hb1)
    go_wp2_with fail
    go_ret
    exact ⟨rfl, HQ1.out.below⟩
  have HZ2 := Lib.hid fun W => szWay_any u v t (szW s 1048576) W ht ⟨by omega, by unfold szW at hb1 ⊢; split at hb1 <;> split <;> omega⟩
  generalize szW s 1048576 = left at *
  by_cases hb2 : szW t left < 0
  · generalize szW t left = left2 at *
    go_enter Try.func11, Try.ntmps11
    go_wp2_with fail
    refine (HZ1.out _).mono ?_
    rintro e w1 ⟨rfl, hb1⟩
    have hx := HQ0.out.kept hb1
    clear r0 r1 r2 r3 r4 r5
    have r0 := hx.a.c0; have r1 := hx.a.c1; have r2 := hx.a.c2; have r3 := hx.b.c0; have r4 := hx.b.c1; have r5 := hx.b.c2
    have HQ1 := Lib.hid hx
    clear hx
    go_wp2_with fail
    refine (HZ2.out _).mono ?_
    rintro e w2 ⟨rfl, hb2⟩
    have HQ2 := Lib.hid (HQ1.out.kept hb2)
    go_wp2_with fail
    go_ret
    exact ⟨rfl, HQ2.out.below⟩
  generalize szW t left = left2 at *
  go_enter Try.func11, Try.ntmps11
  go_wp2_with fail
  refine (HZ1.out _).mono ?_
  rintro e w1 ⟨rfl, hb1⟩
  have hx := HQ0.out.kept hb1
  clear r0 r1 r2 r3 r4 r5
  have r0 := hx.a.c0; have r1 := hx.a.c1; have r2 := hx.a.c2; have r3 := hx.b.c0; have r4 := hx.b.c1; have r5 := hx.b.c2
  have HQ1 := Lib.hid hx
  clear hx hb1
  go_wp2_with fail
  refine (HZ2.out _).mono ?_
  rintro e w2 ⟨rfl, hb2⟩
  have HQ := Lib.hid (HQ1.out.kept hb2)
  clear r0 r1 r2 r3 r4 r5 hb2 HZ1 HZ2
  go_wp2_with fail
  have HRG0 : ∀ (a : Act) (ww : World), ∃ (uu : Nat → Value) (bb : Nat → Nat), a = ((((((((((((a.put (some 23) (uu 0)).put (some 24) (uu 1)).put (some 25) (uu 2)).put (some 26) (uu 3)).put (some 27) (uu 4)).put (some 22) (uu 5)).put (some 28) (uu 6)).put (some 29) (uu 7)).put (some 30) (uu 8)).put (some 6) (uu 9)).put (some 7) (uu 10)).put (some 8) (uu 13)) ∧ RG ww (e_sl8 x y s u v t ok p q p' q' r r') v_sl8 (b_sl8 x y s u v t ok p q p' q' r r') (fun _ => false) ww.drew uu bb := fun a ww => ⟨fun j => a.tmps.getD (([23, 24, 25, 26, 27, 22, 28, 29, 30, 6, 7, 0, 0, 8] : List Nat).getD j 0) undef, fun _ => 0, (by show a = ((((((((((((a.put (some 23) (a.tmps.getD 23 undef)).put (some 24) (a.tmps.getD 24 undef)).put (some 25) (a.tmps.getD 25 undef)).put (some 26) (a.tmps.getD 26 undef)).put (some 27) (a.tmps.getD 27 undef)).put (some 22) (a.tmps.getD 22 undef)).put (some 28) (a.tmps.getD 28 undef)).put (some 29) (a.tmps.getD 29 undef)).put (some 30) (a.tmps.getD 30 undef)).put (some 6) (a.tmps.getD 6 undef)).put (some 7) (a.tmps.getD 7 undef)).put (some 8) (a.tmps.getD 8 undef)); simp only [put_same]), RG.start _ _⟩
  refine wp_region_inv3 (fun a0 LL a W => ∃ (uu : Nat → Value) (bb : Nat → Nat), a = ((((((((((((a0.put (some 23) (uu 0)).put (some 24) (uu 1)).put (some 25) (uu 2)).put (some 26) (uu 3)).put (some 27) (uu 4)).put (some 22) (uu 5)).put (some 28) (uu 6)).put (some 29) (uu 7)).put (some 30) (uu 8)).put (some 6) (uu 9)).put (some 7) (uu 10)).put (some 8) (uu 13)) ∧ RG w2 (e_sl8 x y s u v t ok p q p' q' r r') v_sl8 (b_sl8 x y s u v t ok p q p' q' r r') LL W uu bb) (by kernel_rfl) (by kernel_rfl) (HRG0 _ _) ?_ ?_
  · rintro jj op hop LL a' WW ⟨uu, bb, rfl, hF⟩ hL hdep
    clear HRG0
    match jj, hop with
    | 0, hop =>
      simp at hop; subst hop
      refine wpOp_run rfl rfl ?_
      simp only [Act.put, List.setIfInBounds_toArray, List.set_cons_succ, List.set_cons_zero]
      have r0 := (hF.below.cell (p := ⟨w.heap.size, 0, none⟩) HQ.out.a.lt).trans HQ.out.a.c0
      have r1 := (hF.below.cell (p := ⟨w.heap.size, 1, none⟩) HQ.out.a.lt).trans HQ.out.a.c1
      have r2 := (hF.below.cell (p := ⟨w.heap.size, 2, none⟩) HQ.out.a.lt).trans HQ.out.a.c2
      go_simp
      refine ⟨_, ?_, _, hF.setv (ok_sl8 x y s u v t ok p q p' q' r r') 0 rfl (.agg #[.int .i64 x, .int .i64 y, .string s]) rfl⟩
      simp [upg]
    | 1, hop =>
      simp at hop; subst hop
      refine wpOp_run rfl rfl ?_
      simp only [Act.put, List.setIfInBounds_toArray, List.set_cons_succ, List.set_cons_zero]
      have e0 : uu 0 = .agg #[.int .i64 x, .int .i64 y, .string s] := hF.val 0 rfl (hdep ⟨0, .data⟩ (by simp) rfl)
      simp only [e0]
      go_simp
      go_at_call 25
      refine (HT.out _ _ _ _).mono ?_
      rintro en w' ⟨rfl, hbC⟩
      refine ⟨_, ?_, _, (hF.kept hbC).setv (ok_sl8 x y s u v t ok p q p' q' r r') 1 rfl (.agg #[.int .i64 x, .int .i64 y, .string s]) rfl⟩
      simp [upg, e0]
    | 2, hop =>
      simp at hop; subst hop
      refine wpOp_run rfl rfl ?_
      simp only [Act.put, List.setIfInBounds_toArray, List.set_cons_succ, List.set_cons_zero]
      have r0 := (hF.below.cell (p := ⟨w.heap.size + 1, 0, none⟩) HQ.out.b.lt).trans HQ.out.b.c0
      have r1 := (hF.below.cell (p := ⟨w.heap.size + 1, 1, none⟩) HQ.out.b.lt).trans HQ.out.b.c1
      have r2 := (hF.below.cell (p := ⟨w.heap.size + 1, 2, none⟩) HQ.out.b.lt).trans HQ.out.b.c2
      go_simp
      refine ⟨_, ?_, _, hF.setv (ok_sl8 x y s u v t ok p q p' q' r r') 2 rfl (.agg #[.int .i64 u, .int .i64 v, .string t]) rfl⟩
      simp [upg]
    | 3, hop =>
      simp at hop; subst hop
      refine wpOp_run rfl rfl ?_
      simp only [Act.put, List.setIfInBounds_toArray, List.set_cons_succ, List.set_cons_zero]
      have e2 : uu 2 = .agg #[.int .i64 u, .int .i64 v, .string t] := hF.val 2 rfl (hdep ⟨2, .data⟩ (by simp) rfl)
      simp only [e2]
      go_simp
      go_at_call 25
      refine (HT.out _ _ _ _).mono ?_
      rintro en w' ⟨rfl, hbC⟩
      refine ⟨_, ?_, _, (hF.kept hbC).setv (ok_sl8 x y s u v t ok p q p' q' r r') 3 rfl (.agg #[.int .i64 u, .int .i64 v, .string t]) rfl⟩
      simp [upg, e2]
    | 4, hop =>
      simp at hop; subst hop
      refine wpOp_run rfl rfl ?_
      simp only [Act.put, List.setIfInBounds_toArray, List.set_cons_succ, List.set_cons_zero]
      have e1 : uu 1 = .agg #[.int .i64 x, .int .i64 y, .string s] := hF.val 1 rfl (hdep ⟨1, .data⟩ (by simp) rfl)
      have e3 : uu 3 = .agg #[.int .i64 u, .int .i64 v, .string t] := hF.val 3 rfl (hdep ⟨3, .data⟩ (by simp) rfl)
      simp only [e1, e3]
      go_simp
      go_at_call 46
      refine (hS.out _).mono ?_
      rintro en w' ⟨rfl, hbC⟩
      refine ⟨_, ?_, _, (hF.kept hbC).setv (ok_sl8 x y s u v t ok p q p' q' r r') 4 rfl (.tuple #[.agg #[.int .i64 p, .int .i64 q, .string r], .agg #[.int .i64 p', .int .i64 q', .string r'], .bool ok]) rfl⟩
      simp [upg, e1, e3]
    | 5, hop =>
      simp at hop; subst hop
      refine wpOp_run rfl rfl ?_
      simp only [Act.put, List.setIfInBounds_toArray, List.set_cons_succ, List.set_cons_zero]
      have e4 : uu 4 = .tuple #[.agg #[.int .i64 p, .int .i64 q, .string r], .agg #[.int .i64 p', .int .i64 q', .string r'], .bool ok] := hF.val 4 rfl (hdep ⟨4, .data⟩ (by simp) rfl)
      simp only [e4]
      go_simp
      refine ⟨_, ?_, _, hF.setv (ok_sl8 x y s u v t ok p q p' q' r r') 5 rfl (.tuple #[.agg #[.int .i64 p, .int .i64 q, .string r], .agg #[.int .i64 p', .int .i64 q', .string r'], .bool ok]) rfl⟩
      simp [upg, e4]
    | 6, hop =>
      simp at hop; subst hop
      refine wpOp_run rfl rfl ?_
      simp only [Act.put, List.setIfInBounds_toArray, List.set_cons_succ, List.set_cons_zero]
      have e5 : uu 5 = .tuple #[.agg #[.int .i64 p, .int .i64 q, .string r], .agg #[.int .i64 p', .int .i64 q', .string r'], .bool ok] := hF.val 5 rfl (hdep ⟨5, .data⟩ (by simp) rfl)
      simp only [e5]
      go_simp
      refine ⟨_, ?_, _, hF.setv (ok_sl8 x y s u v t ok p q p' q' r r') 6 rfl (.agg #[.int .i64 p, .int .i64 q, .string r]) rfl⟩
      simp [upg, e5]
    | 7, hop =>
      simp at hop; subst hop
      refine wpOp_run rfl rfl ?_
      simp only [Act.put, List.setIfInBounds_toArray, List.set_cons_succ, List.set_cons_zero]
      have e5 : uu 5 = .tuple #[.agg #[.int .i64 p, .int .i64 q, .string r], .agg #[.int .i64 p', .int .i64 q', .string r'], .bool ok] := hF.val 5 rfl (hdep ⟨5, .data⟩ (by simp) rfl)
      simp only [e5]
      go_simp
      refine ⟨_, ?_, _, hF.setv (ok_sl8 x y s u v t ok p q p' q' r r') 7 rfl (.agg #[.int .i64 p', .int .i64 q', .string r']) rfl⟩
      simp [upg, e5]
    | 8, hop =>
      simp at hop; subst hop
      refine wpOp_run rfl rfl ?_
      simp only [Act.put, List.setIfInBounds_toArray, List.set_cons_succ, List.set_cons_zero]
      have e5 : uu 5 = .tuple #[.agg #[.int .i64 p, .int .i64 q, .string r], .agg #[.int .i64 p', .int .i64 q', .string r'], .bool ok] := hF.val 5 rfl (hdep ⟨5, .data⟩ (by simp) rfl)
      simp only [e5]
      go_simp
      refine ⟨_, ?_, _, hF.setv (ok_sl8 x y s u v t ok p q p' q' r r') 8 rfl (.bool ok) rfl⟩
      simp [upg, e5]
    | 9, hop =>
      simp at hop; subst hop
      refine wpOp_run rfl rfl ?_
      simp only [Act.put, List.setIfInBounds_toArray, List.set_cons_succ, List.set_cons_zero]
      have HAL := hF.alloc (ok_sl8 x y s u v t ok p q p' q' r r') (t0_sl8 x y s u v t ok p q p' q' r r') (m0_sl8 x y s u v t ok p q p' q' r r') hL
      simp only [t0_sl8] at HAL
      go_simp
      refine ⟨_, ?_, _, HAL⟩
      simp [upg]
    | 10, hop =>
      simp at hop; subst hop
      refine wpOp_run rfl rfl ?_
      simp only [Act.put, List.setIfInBounds_toArray, List.set_cons_succ, List.set_cons_zero]
      have HAL := hF.alloc (ok_sl8 x y s u v t ok p q p' q' r r') (t1_sl8 x y s u v t ok p q p' q' r r') (m1_sl8 x y s u v t ok p q p' q' r r') hL
      simp only [t1_sl8] at HAL
      go_simp
      refine ⟨_, ?_, _, HAL⟩
      simp [upg]
    | 11, hop =>
      simp at hop; subst hop
      refine wpOp_run rfl rfl ?_
      simp only [Act.put, List.setIfInBounds_toArray, List.set_cons_succ, List.set_cons_zero]
      have e6 : uu 6 = .agg #[.int .i64 p, .int .i64 q, .string r] := hF.val 6 rfl (hdep ⟨6, .data⟩ (by simp) rfl)
      have dp := hdep ⟨9, .data⟩ (by simp) rfl
      obtain ⟨ep, k2, k3, k4, _⟩ := hF.box (t0_sl8 x y s u v t ok p q p' q' r r') (m0_sl8 x y s u v t ok p q p' q' r r') dp
      have HST := hF.store (ok_sl8 x y s u v t ok p q p' q' r r') (t0_sl8 x y s u v t ok p q p' q' r r') (m0_sl8 x y s u v t ok p q p' q' r r') rfl dp hL
      simp only [t0_sl8, hL, Bool.false_eq_true, and_false, if_false] at k4
      have s0 := k4 0 _ rfl
      have sc0 := s0.1; have sf0 := s0.2; clear s0
      have s1 := k4 1 _ rfl
      have sc1 := s1.1; have sf1 := s1.2; clear s1
      have s2 := k4 2 _ rfl
      have sc2 := s2.1; have sf2 := s2.2; clear s2
      simp only [RG.setN, t0_sl8, Nat.zero_add] at HST ep
      simp only [e6, ep]
      clear hF k4 k2 k3 dp
      go_simp
      refine ⟨_, ?_, _, HST⟩
      simp [e6, ep]
    | 12, hop =>
      simp at hop; subst hop
      refine wpOp_run rfl rfl ?_
      simp only [Act.put, List.setIfInBounds_toArray, List.set_cons_succ, List.set_cons_zero]
      have e7 : uu 7 = .agg #[.int .i64 p', .int .i64 q', .string r'] := hF.val 7 rfl (hdep ⟨7, .data⟩ (by simp) rfl)
      have dp := hdep ⟨10, .data⟩ (by simp) rfl
      obtain ⟨ep, k2, k3, k4, _⟩ := hF.box (t1_sl8 x y s u v t ok p q p' q' r r') (m1_sl8 x y s u v t ok p q p' q' r r') dp
      have HST := hF.store (ok_sl8 x y s u v t ok p q p' q' r r') (t1_sl8 x y s u v t ok p q p' q' r r') (m1_sl8 x y s u v t ok p q p' q' r r') rfl dp hL
      simp only [t1_sl8, hL, Bool.false_eq_true, and_false, if_false] at k4
      have s0 := k4 0 _ rfl
      have sc0 := s0.1; have sf0 := s0.2; clear s0
      have s1 := k4 1 _ rfl
      have sc1 := s1.1; have sf1 := s1.2; clear s1
      have s2 := k4 2 _ rfl
      have sc2 := s2.1; have sf2 := s2.2; clear s2
      simp only [RG.setN, t1_sl8, Nat.zero_add] at HST ep
      simp only [e7, ep]
      clear hF k4 k2 k3 dp
      go_simp
      refine ⟨_, ?_, _, HST⟩
      simp [e7, ep]
    | 13, hop =>
      simp at hop; subst hop
      refine wpOp_run rfl rfl ?_
      simp only [Act.put, List.setIfInBounds_toArray, List.set_cons_succ, List.set_cons_zero]
      have e8 : uu 8 = .bool ok := hF.val 8 rfl (hdep ⟨8, .data⟩ (by simp) rfl)
      simp only [e8]
      go_simp
      refine ⟨_, ?_, _, hF.setv (ok_sl8 x y s u v t ok p q p' q' r r') 13 rfl (.bool ok) rfl⟩
      simp [upg, e8]
    | jj + 14, hop => simp at hop
  · rintro LL a' WW hall ⟨uu, bb, rfl, hF⟩
    clear HRG0
    have e0 : uu 0 = .agg #[.int .i64 x, .int .i64 y, .string s] := hF.val 0 rfl (hall 0 (by simp))
    have e1 : uu 1 = .agg #[.int .i64 x, .int .i64 y, .string s] := hF.val 1 rfl (hall 1 (by simp))
    have e2 : uu 2 = .agg #[.int .i64 u, .int .i64 v, .string t] := hF.val 2 rfl (hall 2 (by simp))
    have e3 : uu 3 = .agg #[.int .i64 u, .int .i64 v, .string t] := hF.val 3 rfl (hall 3 (by simp))
    have e4 : uu 4 = .tuple #[.agg #[.int .i64 p, .int .i64 q, .string r], .agg #[.int .i64 p', .int .i64 q', .string r'], .bool ok] := hF.val 4 rfl (hall 4 (by simp))
    have e5 : uu 5 = .tuple #[.agg #[.int .i64 p, .int .i64 q, .string r], .agg #[.int .i64 p', .int .i64 q', .string r'], .bool ok] := hF.val 5 rfl (hall 5 (by simp))
    have e6 : uu 6 = .agg #[.int .i64 p, .int .i64 q, .string r] := hF.val 6 rfl (hall 6 (by simp))
    have e7 : uu 7 = .agg #[.int .i64 p', .int .i64 q', .string r'] := hF.val 7 rfl (hall 7 (by simp))
    have e8 : uu 8 = .bool ok := hF.val 8 rfl (hall 8 (by simp))
    have e13 : uu 13 = .bool ok := hF.val 13 rfl (hall 13 (by simp))
    obtain ⟨ep0, lo0, hi0, q0, _⟩ := hF.box (t0_sl8 x y s u v t ok p q p' q' r r') (m0_sl8 x y s u v t ok p q p' q' r r') (hall 9 (by simp))
    simp only [t0_sl8, show LL 11 = true from hall 11 (by simp), and_self, if_true] at q0
    simp only [t0_sl8] at ep0 lo0 hi0
    have bc00 := (q0 0 _ rfl).1
    have bc01 := (q0 1 _ rfl).1
    have bc02 := (q0 2 _ rfl).1
    clear q0
    obtain ⟨ep1, lo1, hi1, q1, _⟩ := hF.box (t1_sl8 x y s u v t ok p q p' q' r r') (m1_sl8 x y s u v t ok p q p' q' r r') (hall 10 (by simp))
    simp only [t1_sl8, show LL 12 = true from hall 12 (by simp), and_self, if_true] at q1
    simp only [t1_sl8] at ep1 lo1 hi1
    have bc10 := (q1 0 _ rfl).1
    have bc11 := (q1 1 _ rfl).1
    have bc12 := (q1 2 _ rfl).1
    clear q1
    have ne01 : bb 9 ≠ bb 10 := hF.sep (t0_sl8 x y s u v t ok p q p' q' r r') (m0_sl8 x y s u v t ok p q p' q' r r') (t1_sl8 x y s u v t ok p q p' q' r r') (m1_sl8 x y s u v t ok p q p' q' r r') (by simp [t0_sl8, t1_sl8]) (hall 9 (by simp)) (hall 10 (by simp))
    have HBL := Lib.hid hF.below
    clear hF hall
    simp only [Act.put, List.setIfInBounds_toArray, List.set_cons_succ, List.set_cons_zero]
    simp only [e0, e1, e2, e3, e4, e5, e6, e7, e8, e13, ep0, ep1]
    clear e0 e1 e2 e3 e4 e5 e6 e7 e8 e13 ep0 ep1
    generalize bb 9 = b0 at *
    generalize bb 10 = b1 at *
    have HQ2 := Lib.hid (HQ.out.kept HBL.out)
    have HA0 : Hid (WB b0 p q r WW) := Lib.hid ⟨bc00, bc01, bc02, hi0⟩
    have HB0 : Hid (WB b1 p' q' r' WW) := Lib.hid ⟨bc10, bc11, bc12, hi1⟩
    clear bc00 bc01 bc02 bc10 bc11 bc12 HBL hi0 hi1 lo0 lo1 ne01
    generalize b0 = g0 at *
    generalize b1 = g1 at *
    go_wp2_with fail
    have HRG0 : ∀ (a : Act) (ww : World), ∃ (uu : Nat → Value) (bb : Nat → Nat), a = ((((((((((((a.put (some 32) (uu 0)).put (some 33) (uu 1)).put (some 34) (uu 2)).put (some 35) (uu 3)).put (some 36) (uu 4)).put (some 31) (uu 5)).put (some 37) (uu 6)).put (some 38) (uu 7)).put (some 39) (uu 8)).put (some 9) (uu 9)).put (some 10) (uu 10)).put (some 11) (uu 13)) ∧ RG ww (e_sl9 x y s u v t ok p q p' q' r r') v_sl9 (b_sl9 x y s u v t ok p q p' q' r r') (fun _ => false) ww.drew uu bb := fun a ww => ⟨fun j => a.tmps.getD (([32, 33, 34, 35, 36, 31, 37, 38, 39, 9, 10, 0, 0, 11] : List Nat).getD j 0) undef, fun _ => 0, (by show a = ((((((((((((a.put (some 32) (a.tmps.getD 32 undef)).put (some 33) (a.tmps.getD 33 undef)).put (some 34) (a.tmps.getD 34 undef)).put (some 35) (a.tmps.getD 35 undef)).put (some 36) (a.tmps.getD 36 undef)).put (some 31) (a.tmps.getD 31 undef)).put (some 37) (a.tmps.getD 37 undef)).put (some 38) (a.tmps.getD 38 undef)).put (some 39) (a.tmps.getD 39 undef)).put (some 9) (a.tmps.getD 9 undef)).put (some 10) (a.tmps.getD 10 undef)).put (some 11) (a.tmps.getD 11 undef)); simp only [put_same]), RG.start _ _⟩
    refine wp_region_inv3 (fun a0 LL a W => ∃ (uu : Nat → Value) (bb : Nat → Nat), a = ((((((((((((a0.put (some 32) (uu 0)).put (some 33) (uu 1)).put (some 34) (uu 2)).put (some 35) (uu 3)).put (some 36) (uu 4)).put (some 31) (uu 5)).put (some 37) (uu 6)).put (some 38) (uu 7)).put (some 39) (uu 8)).put (some 9) (uu 9)).put (some 10) (uu 10)).put (some 11) (uu 13)) ∧ RG WW (e_sl9 x y s u v t ok p q p' q' r r') v_sl9 (b_sl9 x y s u v t ok p q p' q' r r') LL W uu bb) (by kernel_rfl) (by kernel_rfl) (HRG0 _ _) ?_ ?_
    · rintro jj op hop LL a' W2 ⟨uu, bb, rfl, hF⟩ hL hdep
      clear HRG0
      match jj, hop with
      | 0, hop =>
        simp at hop; subst hop
        refine wpOp_run rfl rfl ?_
        simp only [Act.put, List.setIfInBounds_toArray, List.set_cons_succ, List.set_cons_zero]
        have r0 := (hF.below.cell (p := ⟨w.heap.size, 0, none⟩) HQ2.out.a.lt).trans HQ2.out.a.c0
        have r1 := (hF.below.cell (p := ⟨w.heap.size, 1, none⟩) HQ2.out.a.lt).trans HQ2.out.a.c1
        have r2 := (hF.below.cell (p := ⟨w.heap.size, 2, none⟩) HQ2.out.a.lt).trans HQ2.out.a.c2
        go_simp
        refine ⟨_, ?_, _, hF.setv (ok_sl9 x y s u v t ok p q p' q' r r') 0 rfl (.agg #[.int .i64 x, .int .i64 y, .string s]) rfl⟩
        simp [upg]
      | 1, hop =>
        simp at hop; subst hop
        refine wpOp_run rfl rfl ?_
        simp only [Act.put, List.setIfInBounds_toArray, List.set_cons_succ, List.set_cons_zero]
        have e0 : uu 0 = .agg #[.int .i64 x, .int .i64 y, .string s] := hF.val 0 rfl (hdep ⟨0, .data⟩ (by simp) rfl)
        simp only [e0]
        go_simp
        go_at_call 25
        refine (HT.out _ _ _ _).mono ?_
        rintro en w' ⟨rfl, hbC⟩
        refine ⟨_, ?_, _, (hF.kept hbC).setv (ok_sl9 x y s u v t ok p q p' q' r r') 1 rfl (.agg #[.int .i64 x, .int .i64 y, .string s]) rfl⟩
        simp [upg, e0]
      | 2, hop =>
        simp at hop; subst hop
        refine wpOp_run rfl rfl ?_
        simp only [Act.put, List.setIfInBounds_toArray, List.set_cons_succ, List.set_cons_zero]
        have r0 := (hF.below.cell (p := ⟨w.heap.size + 1, 0, none⟩) HQ2.out.b.lt).trans HQ2.out.b.c0
        have r1 := (hF.below.cell (p := ⟨w.heap.size + 1, 1, none⟩) HQ2.out.b.lt).trans HQ2.out.b.c1
        have r2 := (hF.below.cell (p := ⟨w.heap.size + 1, 2, none⟩) HQ2.out.b.lt).trans HQ2.out.b.c2
        go_simp
        refine ⟨_, ?_, _, hF.setv (ok_sl9 x y s u v t ok p q p' q' r r') 2 rfl (.agg #[.int .i64 u, .int .i64 v, .string t]) rfl⟩
        simp [upg]
      | 3, hop =>
        simp at hop; subst hop
        refine wpOp_run rfl rfl ?_
        simp only [Act.put, List.setIfInBounds_toArray, List.set_cons_succ, List.set_cons_zero]
        have e2 : uu 2 = .agg #[.int .i64 u, .int .i64 v, .string t] := hF.val 2 rfl (hdep ⟨2, .data⟩ (by simp) rfl)
        simp only [e2]
        go_simp
        go_at_call 25
        refine (HT.out _ _ _ _).mono ?_
        rintro en w' ⟨rfl, hbC⟩
        refine ⟨_, ?_, _, (hF.kept hbC).setv (ok_sl9 x y s u v t ok p q p' q' r r') 3 rfl (.agg #[.int .i64 u, .int .i64 v, .string t]) rfl⟩
        simp [upg, e2]
      | 4, hop =>
        simp at hop; subst hop
        refine wpOp_run rfl rfl ?_
        simp only [Act.put, List.setIfInBounds_toArray, List.set_cons_succ, List.set_cons_zero]
        have e1 : uu 1 = .agg #[.int .i64 x, .int .i64 y, .string s] := hF.val 1 rfl (hdep ⟨1, .data⟩ (by simp) rfl)
        have e3 : uu 3 = .agg #[.int .i64 u, .int .i64 v, .string t] := hF.val 3 rfl (hdep ⟨3, .data⟩ (by simp) rfl)
        simp only [e1, e3]
        go_simp
        go_at_call 47
        refine (hI.out _).mono ?_
        rintro en w' ⟨rfl, hbC⟩
        refine ⟨_, ?_, _, (hF.kept hbC).setv (ok_sl9 x y s u v t ok p q p' q' r r') 4 rfl (.tuple #[.agg #[.int .i64 p, .int .i64 q, .string r], .agg #[.int .i64 p', .int .i64 q', .string r'], .bool ok]) rfl⟩
        simp [upg, e1, e3]
      | 5, hop =>
        simp at hop; subst hop
        refine wpOp_run rfl rfl ?_
        simp only [Act.put, List.setIfInBounds_toArray, List.set_cons_succ, List.set_cons_zero]
        have e4 : uu 4 = .tuple #[.agg #[.int .i64 p, .int .i64 q, .string r], .agg #[.int .i64 p', .int .i64 q', .string r'], .bool ok] := hF.val 4 rfl (hdep ⟨4, .data⟩ (by simp) rfl)
        simp only [e4]
        go_simp
        refine ⟨_, ?_, _, hF.setv (ok_sl9 x y s u v t ok p q p' q' r r') 5 rfl (.tuple #[.agg #[.int .i64 p, .int .i64 q, .string r], .agg #[.int .i64 p', .int .i64 q', .string r'], .bool ok]) rfl⟩
        simp [upg, e4]
      | 6, hop =>
        simp at hop; subst hop
        refine wpOp_run rfl rfl ?_
        simp only [Act.put, List.setIfInBounds_toArray, List.set_cons_succ, List.set_cons_zero]
        have e5 : uu 5 = .tuple #[.agg #[.int .i64 p, .int .i64 q, .string r], .agg #[.int .i64 p', .int .i64 q', .string r'], .bool ok] := hF.val 5 rfl (hdep ⟨5, .data⟩ (by simp) rfl)
        simp only [e5]
        go_simp
        refine ⟨_, ?_, _, hF.setv (ok_sl9 x y s u v t ok p q p' q' r r') 6 rfl (.agg #[.int .i64 p, .int .i64 q, .string r]) rfl⟩
        simp [upg, e5]
      | 7, hop =>
        simp at hop; subst hop
        refine wpOp_run rfl rfl ?_
        simp only [Act.put, List.setIfInBounds_toArray, List.set_cons_succ, List.set_cons_zero]
        have e5 : uu 5 = .tuple #[.agg #[.int .i64 p, .int .i64 q, .string r], .agg #[.int .i64 p', .int .i64 q', .string r'], .bool ok] := hF.val 5 rfl (hdep ⟨5, .data⟩ (by simp) rfl)
        simp only [e5]
        go_simp
        refine ⟨_, ?_, _, hF.setv (ok_sl9 x y s u v t ok p q p' q' r r') 7 rfl (.agg #[.int .i64 p', .int .i64 q', .string r']) rfl⟩
        simp [upg, e5]
      | 8, hop =>
        simp at hop; subst hop
        refine wpOp_run rfl rfl ?_
        simp only [Act.put, List.setIfInBounds_toArray, List.set_cons_succ, List.set_cons_zero]
        have e5 : uu 5 = .tuple #[.agg #[.int .i64 p, .int .i64 q, .string r], .agg #[.int .i64 p', .int .i64 q', .string r'], .bool ok] := hF.val 5 rfl (hdep ⟨5, .data⟩ (by simp) rfl)
        simp only [e5]
        go_simp
        refine ⟨_, ?_, _, hF.setv (ok_sl9 x y s u v t ok p q p' q' r r') 8 rfl (.bool ok) rfl⟩
        simp [upg, e5]
      | 9, hop =>
        simp at hop; subst hop
        refine wpOp_run rfl rfl ?_
        simp only [Act.put, List.setIfInBounds_toArray, List.set_cons_succ, List.set_cons_zero]
        have HAL := hF.alloc (ok_sl9 x y s u v t ok p q p' q' r r') (t0_sl9 x y s u v t ok p q p' q' r r') (m0_sl9 x y s u v t ok p q p' q' r r') hL
        simp only [t0_sl9] at HAL
        go_simp
        refine ⟨_, ?_, _, HAL⟩
        simp [upg]
      | 10, hop =>
        simp at hop; subst hop
        refine wpOp_run rfl rfl ?_
        simp only [Act.put, List.setIfInBounds_toArray, List.set_cons_succ, List.set_cons_zero]
        have HAL := hF.alloc (ok_sl9 x y s u v t ok p q p' q' r r') (t1_sl9 x y s u v t ok p q p' q' r r') (m1_sl9 x y s u v t ok p q p' q' r r') hL
        simp only [t1_sl9] at HAL
        go_simp
        refine ⟨_, ?_, _, HAL⟩
        simp [upg]
      | 11, hop =>
        simp at hop; subst hop
        refine wpOp_run rfl rfl ?_
        simp only [Act.put, List.setIfInBounds_toArray, List.set_cons_succ, List.set_cons_zero]
        have e6 : uu 6 = .agg #[.int .i64 p, .int .i64 q, .string r] := hF.val 6 rfl (hdep ⟨6, .data⟩ (by simp) rfl)
        have dp := hdep ⟨9, .data⟩ (by simp) rfl
        obtain ⟨ep, k2, k3, k4, _⟩ := hF.box (t0_sl9 x y s u v t ok p q p' q' r r') (m0_sl9 x y s u v t ok p q p' q' r r') dp
        have HST := hF.store (ok_sl9 x y s u v t ok p q p' q' r r') (t0_sl9 x y s u v t ok p q p' q' r r') (m0_sl9 x y s u v t ok p q p' q' r r') rfl dp hL
        simp only [t0_sl9, hL, Bool.false_eq_true, and_false, if_false] at k4
        have s0 := k4 0 _ rfl
        have sc0 := s0.1; have sf0 := s0.2; clear s0
        have s1 := k4 1 _ rfl
        have sc1 := s1.1; have sf1 := s1.2; clear s1
        have s2 := k4 2 _ rfl
        have sc2 := s2.1; have sf2 := s2.2; clear s2
        simp only [RG.setN, t0_sl9, Nat.zero_add] at HST ep
        simp only [e6, ep]
        clear hF k4 k2 k3 dp
        go_simp
        refine ⟨_, ?_, _, HST⟩
        simp [e6, ep]
      | 12, hop =>
        simp at hop; subst hop
        refine wpOp_run rfl rfl ?_
        simp only [Act.put, List.setIfInBounds_toArray, List.set_cons_succ, List.set_cons_zero]
        have e7 : uu 7 = .agg #[.int .i64 p', .int .i64 q', .string r'] := hF.val 7 rfl (hdep ⟨7, .data⟩ (by simp) rfl)
        have dp := hdep ⟨10, .data⟩ (by simp) rfl
        obtain ⟨ep, k2, k3, k4, _⟩ := hF.box (t1_sl9 x y s u v t ok p q p' q' r r') (m1_sl9 x y s u v t ok p q p' q' r r') dp
        have HST := hF.store (ok_sl9 x y s u v t ok p q p' q' r r') (t1_sl9 x y s u v t ok p q p' q' r r') (m1_sl9 x y s u v t ok p q p' q' r r') rfl dp hL
        simp only [t1_sl9, hL, Bool.false_eq_true, and_false, if_false] at k4
        have s0 := k4 0 _ rfl
        have sc0 := s0.1; have sf0 := s0.2; clear s0
        have s1 := k4 1 _ rfl
        have sc1 := s1.1; have sf1 := s1.2; clear s1
        have s2 := k4 2 _ rfl
        have sc2 := s2.1; have sf2 := s2.2; clear s2
        simp only [RG.setN, t1_sl9, Nat.zero_add] at HST ep
        simp only [e7, ep]
        clear hF k4 k2 k3 dp
        go_simp
        refine ⟨_, ?_, _, HST⟩
        simp [e7, ep]
      | 13, hop =>
        simp at hop; subst hop
        refine wpOp_run rfl rfl ?_
        simp only [Act.put, List.setIfInBounds_toArray, List.set_cons_succ, List.set_cons_zero]
        have e8 : uu 8 = .bool ok := hF.val 8 rfl (hdep ⟨8, .data⟩ (by simp) rfl)
        simp only [e8]
        go_simp
        refine ⟨_, ?_, _, hF.setv (ok_sl9 x y s u v t ok p q p' q' r r') 13 rfl (.bool ok) rfl⟩
        simp [upg, e8]
      | jj + 14, hop => simp at hop
    · rintro LL a' W2 hall ⟨uu, bb, rfl, hF⟩
      clear HRG0
      have e0 : uu 0 = .agg #[.int .i64 x, .int .i64 y, .string s] := hF.val 0 rfl (hall 0 (by simp))
      have e1 : uu 1 = .agg #[.int .i64 x, .int .i64 y, .string s] := hF.val 1 rfl (hall 1 (by simp))
      have e2 : uu 2 = .agg #[.int .i64 u, .int .i64 v, .string t] := hF.val 2 rfl (hall 2 (by simp))
      have e3 : uu 3 = .agg #[.int .i64 u, .int .i64 v, .string t] := hF.val 3 rfl (hall 3 (by simp))
      have e4 : uu 4 = .tuple #[.agg #[.int .i64 p, .int .i64 q, .string r], .agg #[.int .i64 p', .int .i64 q', .string r'], .bool ok] := hF.val 4 rfl (hall 4 (by simp))
      have e5 : uu 5 = .tuple #[.agg #[.int .i64 p, .int .i64 q, .string r], .agg #[.int .i64 p', .int .i64 q', .string r'], .bool ok] := hF.val 5 rfl (hall 5 (by simp))
      have e6 : uu 6 = .agg #[.int .i64 p, .int .i64 q, .string r] := hF.val 6 rfl (hall 6 (by simp))
      have e7 : uu 7 = .agg #[.int .i64 p', .int .i64 q', .string r'] := hF.val 7 rfl (hall 7 (by simp))
      have e8 : uu 8 = .bool ok := hF.val 8 rfl (hall 8 (by simp))
      have e13 : uu 13 = .bool ok := hF.val 13 rfl (hall 13 (by simp))
      obtain ⟨ep0, lo0, hi0, q0, _⟩ := hF.box (t0_sl9 x y s u v t ok p q p' q' r r') (m0_sl9 x y s u v t ok p q p' q' r r') (hall 9 (by simp))
      simp only [t0_sl9, show LL 11 = true from hall 11 (by simp), and_self, if_true] at q0
      simp only [t0_sl9] at ep0 lo0 hi0
      have bc00 := (q0 0 _ rfl).1
      have bc01 := (q0 1 _ rfl).1
      have bc02 := (q0 2 _ rfl).1
      clear q0
      obtain ⟨ep1, lo1, hi1, q1, _⟩ := hF.box (t1_sl9 x y s u v t ok p q p' q' r r') (m1_sl9 x y s u v t ok p q p' q' r r') (hall 10 (by simp))
      simp only [t1_sl9, show LL 12 = true from hall 12 (by simp), and_self, if_true] at q1
      simp only [t1_sl9] at ep1 lo1 hi1
      have bc10 := (q1 0 _ rfl).1
      have bc11 := (q1 1 _ rfl).1
      have bc12 := (q1 2 _ rfl).1
      clear q1
      have ne01 : bb 9 ≠ bb 10 := hF.sep (t0_sl9 x y s u v t ok p q p' q' r r') (m0_sl9 x y s u v t ok p q p' q' r r') (t1_sl9 x y s u v t ok p q p' q' r r') (m1_sl9 x y s u v t ok p q p' q' r r') (by simp [t0_sl9, t1_sl9]) (hall 9 (by simp)) (hall 10 (by simp))
      have HBL := Lib.hid hF.below
      clear hF hall
      simp only [Act.put, List.setIfInBounds_toArray, List.set_cons_succ, List.set_cons_zero]
      simp only [e0, e1, e2, e3, e4, e5, e6, e7, e8, e13, ep0, ep1]
      clear e0 e1 e2 e3 e4 e5 e6 e7 e8 e13 ep0 ep1
      generalize bb 9 = b0 at *
      generalize bb 10 = b1 at *
      have HQ3 := Lib.hid (HQ2.out.kept HBL.out)
      have HA1 := Lib.hid (HA0.out.below HBL.out)
      have HB1 := Lib.hid (HB0.out.below HBL.out)
      have HC1 : Hid (WB b1 p' q' r' W2) := Lib.hid ⟨bc10, bc11, bc12, hi1⟩
      clear HBL bc10 bc11 bc12
      have d0 := HA1.out.c0; have d1 := HA1.out.c1; have d2 := HA1.out.c2
      go_wp2_with fail
      refine (eqWay_any p q r _).mono ?_
      rintro e w5 ⟨rfl, hb5⟩
      have HQ5 := Lib.hid (HQ3.out.kept hb5)
      have hb1 := HB1.out.below hb5
      have hc1 := HC1.out.below hb5
      clear hb5 d0 d1 d2 bc00 bc01 bc02
      have d0 := hb1.c0; have d1 := hb1.c1; have d2 := hb1.c2; have d3 := hc1.c0; have d4 := hc1.c1; have d5 := hc1.c2
      clear hb1 hc1
      go_wp2_with fail
      refine (eqWay_any p' q' r' _).mono ?_
      rintro e w6 ⟨rfl, hb6⟩
      have HQ6 := Lib.hid (HQ5.out.kept hb6)
      clear hb6 d0 d1 d2 d3 d4 d5
      go_wp2_with fail
      go_ret
      exact ⟨rfl, HQ6.out.below⟩
end Go.Proofs.Ytahnknbggacndaa
