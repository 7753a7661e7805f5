/- Pack 32 of what FnExactAllPairsApart needs: WpI, PaMath. -/
import Derived.Test.YtnlmjeakdjmohaaKFnExactAllPairsApart31
/- The program's waysPast, AllWays. -/
namespace Go.Proofs.Ytnlmjeakdjmohaa
open Go.RowKit
set_option linter.unusedVariables false
def e_wp2 (x y u v : Int) (A0 : Option Addr) (n c0 most nL : Nat) : Nat → Value
  | 0 => .agg #[.int .i64 x, .int .i64 y]
  | 1 => .agg #[.int .i64 x, .int .i64 y]
  | 2 => .agg #[.int .i64 u, .int .i64 v]
  | 3 => .agg #[.int .i64 u, .int .i64 v]
  | 4 => .slice A0 n c0
  | 5 => .int .i64 (most : Int)
  | 7 => .int .i64 (nL : Int)
  | 8 => .int .i64 0
  | _ => undef
def v_wp2 (j : Nat) : Bool := ([true, true, true, true, true, true, false, true, true] : List Bool).getD j false
def r_wp2 (j : Nat) : Bool := ([false, false, false, false, false, false, true, false, false] : List Bool).getD j false
theorem ok_wp2 : ∀ j, v_wp2 j = true → r_wp2 j = false := by
  intro j h
  match j, h with
  | 0, _ => rfl
  | 1, _ => rfl
  | 2, _ => rfl
  | 3, _ => rfl
  | 4, _ => rfl
  | 5, _ => rfl
  | 6, h => simp [v_wp2] at h
  | 7, _ => rfl
  | 8, _ => rfl
  | j + 9, h => simp [v_wp2] at h
def WNew (w : World) (L : List Wy) (e : Ending) (w' : World) : Prop := ∃ v, e = .returned v ∧ WRow w' w.heap.size v L ∧ Below w.heap.size w w'
/-- the first ways that keep off what is taken -/
def wpL (x y u v : Int) (n : Nat) (ts : List Int) (most : Nat) : List Wy := (txM ((spF (hasF n ts) u v 25 x y).take most)).map fun s => (x, y, s)
set_option maxRecDepth 100000 in
set_option maxHeartbeats 8000000 in
theorem waysPast_any (x y u v : Int) (tv : Value) (n : Nat) (ts : List Int) (most : Nat) (w : World) (h1 : cellB x y = true) (h2 : cellB u v = true) (hm : most ≤ 1000000) (hn : n ≤ 1048576) (hr : RPls w tv n ts) :
    Calls Try.prog 75 #[celV x y, celV u v, tv, .int .i64 (most : Int)] w (WNew w (wpL x y u v n ts most)) := by
  have a := (cellB_iff _ _).1 h1
  have b := (cellB_iff _ _).1 h2
  have HPL : Hid (∀ x y w, Calls Try.prog 121 #[celV x y] w (Ret w (celV x y))) := Lib.hid cellPlace_ret
  have HTK := Lib.hid hr
  obtain ⟨A0, c0, rfl⟩ := hr.shape
  have HCL : Hid (∀ X, RPls X (.slice A0 n c0) n ts → Calls Try.prog 120 #[celV x y, celV u v, .slice A0 n c0, .int .i64 (most : Int)] X (SNew X (txM ((spF (hasF n ts) u v 25 x y).take most)))) := Lib.hid fun X h => stepsPast_any u v (by omega) (by omega) 25 x y _ n ts most X (by omega) (by omega) (by omega) hm hn h
  have hnl : (txM ((spF (hasF n ts) u v 25 x y).take most)).length ≤ 1000000 := by unfold txM; rw [List.length_map, List.length_take]; omega
  have HAL : Hid (wpL x y u v n ts most = (txM ((spF (hasF n ts) u v 25 x y).take most)).map fun s => (x, y, s)) := Lib.hid rfl
  generalize wpL x y u v n ts most = AL at *
  generalize txM ((spF (hasF n ts) u v 25 x y).take most) = LT at *
  obtain ⟨nL, hnL⟩ : ∃ nL, LT.length = nL := ⟨_, rfl⟩
  have HNL := Lib.hid hnL
  rw [hnL] at hnl
  have hX := C2.start w x y u v
  obtain ⟨wa, hwa⟩ : ∃ wa, wa = (w.alloc (.cells #[.int .i64 x, .int .i64 y] 39)).alloc (.cells #[.int .i64 u, .int .i64 v] 39) := ⟨_, rfl⟩
  rw [← hwa] at hX
  have HX := Lib.hid hX
  have HWA := Lib.hid hwa
  clear hr a b h1 h2 hnL hX hwa
  go_enter Try.func75, Try.ntmps75
  go_wp2_with fail
  rw [← HWA.out]
  have HRG0 : ∀ (ac : Act) (ww : World), ∃ uu : Nat → Value, ac = (((((((((ac.put (some 12) (uu 0)).put (some 13) (uu 1)).put (some 14) (uu 2)).put (some 15) (uu 3)).put (some 16) (uu 4)).put (some 17) (uu 5)).put (some 18) (uu 6)).put (some 19) (uu 7)).put (some 20) (uu 8)) ∧ RC ww (e_wp2 x y u v A0 n c0 most nL) v_wp2 r_wp2 6 nL (fun X v => SRow X wa.heap.size v LT) (fun _ => false) ww.drew uu := fun ac ww => ⟨fun j => ac.tmps.getD (([12, 13, 14, 15, 16, 17, 18, 19, 20] : List Nat).getD j 0) undef, (by show ac = (((((((((ac.put (some 12) (ac.tmps.getD 12 undef)).put (some 13) (ac.tmps.getD 13 undef)).put (some 14) (ac.tmps.getD 14 undef)).put (some 15) (ac.tmps.getD 15 undef)).put (some 16) (ac.tmps.getD 16 undef)).put (some 17) (ac.tmps.getD 17 undef)).put (some 18) (ac.tmps.getD 18 undef)).put (some 19) (ac.tmps.getD 19 undef)).put (some 20) (ac.tmps.getD 20 undef)); simp only [put_same]), RC.start rfl _ _⟩
  refine wp_region_inv3 (fun a0 LL ac W => ∃ uu : Nat → Value, ac = (((((((((a0.put (some 12) (uu 0)).put (some 13) (uu 1)).put (some 14) (uu 2)).put (some 15) (uu 3)).put (some 16) (uu 4)).put (some 17) (uu 5)).put (some 18) (uu 6)).put (some 19) (uu 7)).put (some 20) (uu 8)) ∧ RC wa (e_wp2 x y u v A0 n c0 most nL) v_wp2 r_wp2 6 nL (fun X v => SRow X wa.heap.size v LT) LL W uu) (by kernel_rfl) (by kernel_rfl) (HRG0 _ _) ?_ ?_
  · rintro jj op hop LL a' WW ⟨uu, rfl, hF⟩ hL hdep
    clear HRG0
    match jj, hop with
    | 0, hop =>
      simp at hop; subst hop
      refine wpOp_run rfl rfl ?_
      simp only [Act.put, List.setIfInBounds_toArray, List.set_cons_succ, List.set_cons_zero]
      have r0 := (HX.out.kept hF.below).a0
      have r1 := (HX.out.kept hF.below).a1
      go_simp
      refine ⟨_, ?_, hF.setv ok_wp2 0 rfl (.agg #[.int .i64 x, .int .i64 y]) rfl⟩
      simp [upg]
    | 1, hop =>
      simp at hop; subst hop
      refine wpOp_run rfl rfl ?_
      simp only [Act.put, List.setIfInBounds_toArray, List.set_cons_succ, List.set_cons_zero]
      have e0 : uu 0 = .agg #[.int .i64 x, .int .i64 y] := hF.val 0 rfl (hdep ⟨0, .data⟩ (by simp) rfl)
      simp only [e0]
      go_simp
      go_at_call 121
      refine (HPL.out _ _ _).mono ?_
      rintro en w' ⟨rfl, hbC⟩
      refine ⟨_, ?_, RC.setv ok_wp2 (RC.kept (Rw := fun X v => SRow X wa.heap.size v LT) (fun X X' v h hb => SRow.below h hb) hF hbC) 1 rfl (.agg #[.int .i64 x, .int .i64 y]) rfl⟩
      simp [upg, e0]
    | 2, hop =>
      simp at hop; subst hop
      refine wpOp_run rfl rfl ?_
      simp only [Act.put, List.setIfInBounds_toArray, List.set_cons_succ, List.set_cons_zero]
      have r0 := (HX.out.kept hF.below).b0
      have r1 := (HX.out.kept hF.below).b1
      go_simp
      refine ⟨_, ?_, hF.setv ok_wp2 2 rfl (.agg #[.int .i64 u, .int .i64 v]) rfl⟩
      simp [upg]
    | 3, hop =>
      simp at hop; subst hop
      refine wpOp_run rfl rfl ?_
      simp only [Act.put, List.setIfInBounds_toArray, List.set_cons_succ, List.set_cons_zero]
      have e2 : uu 2 = .agg #[.int .i64 u, .int .i64 v] := hF.val 2 rfl (hdep ⟨2, .data⟩ (by simp) rfl)
      simp only [e2]
      go_simp
      go_at_call 121
      refine (HPL.out _ _ _).mono ?_
      rintro en w' ⟨rfl, hbC⟩
      refine ⟨_, ?_, RC.setv ok_wp2 (RC.kept (Rw := fun X v => SRow X wa.heap.size v LT) (fun X X' v h hb => SRow.below h hb) hF hbC) 3 rfl (.agg #[.int .i64 u, .int .i64 v]) rfl⟩
      simp [upg, e2]
    | 4, hop =>
      simp at hop; subst hop
      refine wpOp_run rfl rfl ?_
      simp only [Act.put, List.setIfInBounds_toArray, List.set_cons_succ, List.set_cons_zero]
      go_simp
      refine ⟨_, ?_, hF.setv ok_wp2 4 rfl (.slice A0 n c0) rfl⟩
      simp [upg]
    | 5, hop =>
      simp at hop; subst hop
      refine wpOp_run rfl rfl ?_
      simp only [Act.put, List.setIfInBounds_toArray, List.set_cons_succ, List.set_cons_zero]
      go_simp
      refine ⟨_, ?_, hF.setv ok_wp2 5 rfl (.int .i64 (most : Int)) rfl⟩
      simp [upg]
    | 6, hop =>
      simp at hop; subst hop
      refine wpOp_run rfl rfl ?_
      simp only [Act.put, List.setIfInBounds_toArray, List.set_cons_succ, List.set_cons_zero]
      have e1 : uu 1 = .agg #[.int .i64 x, .int .i64 y] := hF.val 1 rfl (hdep ⟨1, .data⟩ (by simp) rfl)
      have e3 : uu 3 = .agg #[.int .i64 u, .int .i64 v] := hF.val 3 rfl (hdep ⟨3, .data⟩ (by simp) rfl)
      have e4 : uu 4 = .slice A0 n c0 := hF.val 4 rfl (hdep ⟨4, .data⟩ (by simp) rfl)
      have e5 : uu 5 = .int .i64 (most : Int) := hF.val 5 rfl (hdep ⟨5, .data⟩ (by simp) rfl)
      simp only [e1, e3, e4, e5]
      go_simp
      go_at_call 120
      refine (HCL.out _ (HTK.out.below (HX.out.below.trans (hF.below.mono HX.out.below.size)))).mono ?_
      rintro en w2 ⟨v2, rfl, hr2, hbC⟩
      obtain ⟨A3, c3, rfl⟩ := hr2.shape
      rw [HNL.out] at hr2 ⊢
      have hrC : SRow w2 wa.heap.size (.slice A3 nL c3) LT := hr2.mono hF.below.size
      refine ⟨_, ?_, RC.setr ok_wp2 (RC.kept (Rw := fun X v => SRow X wa.heap.size v LT) (fun X X' v h hb => SRow.below h hb) hF hbC) hL A3 c3 hrC⟩
      simp [upg, e1, e3, e4, e5]
    | 7, hop =>
      simp at hop; subst hop
      refine wpOp_run rfl rfl ?_
      simp only [Act.put, List.setIfInBounds_toArray, List.set_cons_succ, List.set_cons_zero]
      have hd6 := hdep ⟨6, .data⟩ (by simp) rfl
      obtain ⟨A3, c3, hres, _⟩ := hF.res
      have e6 : uu 6 = .slice A3 nL c3 := hres 6 rfl hd6
      simp only [e6]
      go_simp
      refine ⟨_, ?_, hF.setv ok_wp2 7 rfl (.int .i64 (nL : Int)) rfl⟩
      simp [upg, e6]
    | 8, hop =>
      simp at hop; subst hop
      refine wpOp_run rfl rfl ?_
      simp only [Act.put, List.setIfInBounds_toArray, List.set_cons_succ, List.set_cons_zero]
      go_simp
      refine ⟨_, ?_, hF.setv ok_wp2 8 rfl (.int .i64 0) rfl⟩
      simp [upg]
    | jj + 9, hop => simp at hop
  · rintro LL a' WW hall ⟨uu, rfl, hF⟩
    clear HRG0
    have e0 : uu 0 = .agg #[.int .i64 x, .int .i64 y] := hF.val 0 rfl (hall 0 (by simp))
    have e1 : uu 1 = .agg #[.int .i64 x, .int .i64 y] := hF.val 1 rfl (hall 1 (by simp))
    have e2 : uu 2 = .agg #[.int .i64 u, .int .i64 v] := hF.val 2 rfl (hall 2 (by simp))
    have e3 : uu 3 = .agg #[.int .i64 u, .int .i64 v] := hF.val 3 rfl (hall 3 (by simp))
    have e4 : uu 4 = .slice A0 n c0 := hF.val 4 rfl (hall 4 (by simp))
    have e5 : uu 5 = .int .i64 (most : Int) := hF.val 5 rfl (hall 5 (by simp))
    have e7 : uu 7 = .int .i64 (nL : Int) := hF.val 7 rfl (hall 7 (by simp))
    have e8 : uu 8 = .int .i64 0 := hF.val 8 rfl (hall 8 (by simp))
    obtain ⟨A3, c3, hres, hrw⟩ := hF.res
    have e6 : uu 6 = .slice A3 nL c3 := hres 6 rfl (hall 6 (by simp))
    have HRW := Lib.hid (hrw ⟨6, rfl, hall 6 (by simp)⟩)
    have HBL := Lib.hid hF.below
    clear hF hall hres hrw
    simp only [Act.put, List.setIfInBounds_toArray, List.set_cons_succ, List.set_cons_zero]
    simp only [e0, e1, e2, e3, e4, e5, e7, e8, e6]
    clear e0 e1 e2 e3 e4 e5 e7 e8 e6
    have HX2 := Lib.hid (HX.out.kept HBL.out)
    clear HBL
    go_wp2_with fail
    go_loopw [9, 20] (fun o i wq => ∃ j : Nat, j ≤ nL ∧ i = .int .i64 (j : Int) ∧ WRow wq WW.heap.size o ((LT.take j).map fun s => (x, y, s)) ∧ Below WW.heap.size WW wq) (fun _ i _ => nL - (intOf i).toNat)
    case atStart => exact ⟨0, Nat.zero_le _, rfl, WRow.nil _ _, Below.refl _ _⟩
    case round =>
      obtain ⟨k, hk, rfl, hrow, hb⟩ := hrel
      have hln : ((LT.take k).map fun s => ((x, y, s) : Wy)).length = k := by rw [List.length_map, List.length_take, HNL.out]; omega
      obtain ⟨A2, p2, rfl⟩ := hrow.shape
      rw [hln] at hrow ⊢
      by_cases hlt : k < nL
      · have h11 := HRW.out.below hb
        obtain ⟨g, cc, hv, _, _⟩ := h11.form' HNL.out (by omega)
        injection hv with hv hnn hcc
        subst hv
        subst hcc
        clear hnn
        have e0 := h11.cell (j := k) (by rw [HNL.out]; exact hlt)
        have hx := HX2.out.kept hb
        have c0' := hx.a0
        have c1' := hx.a1
        have HMT := Lib.hid (way_take x y LT (k := k) (by rw [HNL.out]; exact hlt))
        have i2 : (k : Int) < (nL : Int) := by omega
        have i3 : 0 ≤ (k : Int) := by omega
        generalize LT.getD k ByteArray.empty = s at *
        generalize ((LT.take k).map fun s => ((x, y, s) : Wy)) = P at *
        have ha : Below wr.heap.size wr (wr.alloc (.cells #[.int .i64 x, .int .i64 y, .string s] 56)) := (Below.refl _ _).alloc (Nat.le_refl _) _
        have HROW := Lib.hid (hrow.below ha)
        have HBW := Lib.hid (hb.trans (ha.mono hb.size))
        have HLN := Lib.hid hln
        have q0 : (wr.alloc (.cells #[.int .i64 x, .int .i64 y, .string s] 56)).cell? ⟨wr.heap.size, 0, none⟩ = some (.int .i64 x) := by simp [go_sem]
        have q1 : (wr.alloc (.cells #[.int .i64 x, .int .i64 y, .string s] 56)).cell? ⟨wr.heap.size, 1, none⟩ = some (.int .i64 y) := by simp [go_sem]
        have q2 : (wr.alloc (.cells #[.int .i64 x, .int .i64 y, .string s] 56)).cell? ⟨wr.heap.size, 2, none⟩ = some (.string s) := by simp [go_sem]
        have Q0 := Lib.hid q0
        have Q1 := Lib.hid q1
        have Q2 := Lib.hid q2
        clear h11 hrow hb hx hln ha q0 q1 q2
        go_wp2_with (at_builtin; refine wpList_pushW x y s (.tmp 24) (.tmp 28) rfl rfl WW.heap.size _ P rfl HROW.out wr.heap.size rfl Q0.out Q1.out Q2.out (by rw [HLN.out]; omega) HBW.out.size ?_; intro v' w' hr' hg' hat')
        have hb' : Below WW.heap.size WW w' := HBW.out.grown hg' HBW.out.size (fun q hq => (HROW.out.blk q hq).1)
        rw [HMT.out] at hr'
        have HR' := Lib.hid hr'
        have HB' := Lib.hid hb'
        obtain ⟨A5, c5, rfl⟩ := hr'.shape
        clear hr' hg' hat' hb'
        go_wp2_with fail
        go_roundw
        case rel => exact ⟨k + 1, by omega, by go_num, HR'.out, HB'.out⟩
        case measure => first | (simp [intOf]; done) | (simp [intOf]; omega)
      · obtain rfl : k = nL := by omega
        have HTK2 : Hid (LT.take k = LT) := Lib.hid (List.take_of_length_le (by rw [HNL.out]; omega))
        rw [HTK2.out, ← HAL.out] at hrow
        have HROW := Lib.hid (hrow.mono HX2.out.below.size)
        have HBW := Lib.hid (HX2.out.below.trans (hb.mono HX2.out.below.size))
        clear hrow hb hln HTK2
        go_wp2_with fail
        go_ret
        exact ⟨_, rfl, HROW.out, HBW.out⟩
set_option maxRecDepth 100000 in
set_option maxHeartbeats 2000000 in
theorem allWaysI_ret (x y u v : Int) (w : World) : Calls Try.prog 83 #[celV x y, celV u v] w (WsRet w (awOk x y u v) (awV x y u v)) := by
  have HX := Lib.hid (C2.start w x y u v)
  have c0 := HX.out.a0
  have c1 := HX.out.a1
  have c2 := HX.out.b0
  have c3 := HX.out.b1
  have HC : Hid (∀ w, Calls Try.prog 127 #[celV x y, celV u v] w (Ret w (.tuple #[.int .i64 (cyV x y u v), .bool (cyOk x y u v)]))) := Lib.hid fun w => countWaysI_ret x y u v w
  rcases Bool.eq_false_or_eq_true (cyOk x y u v) with a1 | a1
  case inr =>
    have e1 : awOk x y u v = false := by unfold awOk; unfold cyOk at a1; rw [a1]; rfl
    have e2 : awV x y u v = [] := by unfold awV; rw [e1]; rfl
    rw [e1, e2]
    rw [a1] at HC
    generalize cyV x y u v = z at *
    clear a1 e1 e2
    go_enter Try.func83, Try.ntmps83
    go_wp2_with fail
    refine (HC.out _).mono ?_
    rintro e w1 ⟨rfl, hb1⟩
    have HX1 := Lib.hid (HX.out.kept hb1)
    clear hb1
    go_wp2_with fail
    go_ret2
    exact ⟨.slice none 0 0, rfl, WRow.nil _ _, HX1.out.below⟩
  have hcy : cyV x y u v = ncV x y u v := by unfold cyV; rw [if_pos a1]
  have hcc : cellB x y = true ∧ cellB u v = true := by unfold cyOk at a1; rw [Bool.and_eq_true] at a1; exact a1
  have hok : awOk x y u v = awB x y u v := by unfold awOk; rw [hcc.1, hcc.2]; rfl
  have hlen := tx_len hcc.1 hcc.2
  rw [a1, hcy] at HC
  by_cases hbig : 200 < ncV x y u v
  · have e1 : awOk x y u v = false := by rw [hok]; unfold awB; exact decide_eq_false (by omega)
    have e2 : awV x y u v = [] := by unfold awV; rw [e1]; rfl
    rw [e1, e2]
    generalize ncV x y u v = z at *
    clear a1 e1 e2 hlen hok hcy hcc
    go_enter Try.func83, Try.ntmps83
    go_wp2_with fail
    refine (HC.out _).mono ?_
    rintro e w1 ⟨rfl, hb1⟩
    have HX1 := Lib.hid (HX.out.kept hb1)
    clear hb1
    go_wp2_with fail
    go_ret2
    exact ⟨.slice none 0 0, rfl, WRow.nil _ _, HX1.out.below⟩
  · have e1 : awOk x y u v = true := by rw [hok]; unfold awB; exact decide_eq_true (by omega)
    have e2 : awV x y u v = wpL x y u v 0 [] 200 := by
      unfold awV
      rw [if_pos e1]
      unfold awL wpL
      rw [show hasF 0 [] = noT from rfl, spF_tx, List.take_of_length_le (by omega)]
    rw [e1, e2]
    have HW : Hid (∀ X, Calls Try.prog 75 #[celV x y, celV u v, .slice none 0 0, .int .i64 200] X (WNew X (wpL x y u v 0 [] 200))) := Lib.hid fun X => waysPast_any x y u v _ 0 [] 200 X hcc.1 hcc.2 (by omega) (by omega) (RPls.nil X 0)
    generalize wpL x y u v 0 [] 200 = WL at *
    generalize ncV x y u v = z at *
    clear a1 e1 e2 hlen hok hcy hcc
    go_enter Try.func83, Try.ntmps83
    go_wp2_with fail
    refine (HC.out _).mono ?_
    rintro e w1 ⟨rfl, hb1⟩
    have hx := HX.out.kept hb1
    clear c0 c1 c2 c3
    have c0 := hx.a0
    have c1 := hx.a1
    have c2 := hx.b0
    have c3 := hx.b1
    have HX1 := Lib.hid hx
    clear hx hb1
    go_wp2_with fail
    refine (HW.out _).mono ?_
    rintro e w2 ⟨vv, rfl, hr2, hb2⟩
    have HX2 := Lib.hid (HX1.out.kept hb2)
    have HR2 := Lib.hid (hr2.mono HX1.out.below.size)
    obtain ⟨A1, p1, rfl⟩ := hr2.shape
    clear hr2 hb2
    go_wp2_with fail
    go_ret2
    exact ⟨_, rfl, HR2.out, HX2.out.below⟩
end Go.Proofs.Ytnlmjeakdjmohaa

/- Lists of two ways that are apart. -/
namespace Go.Proofs.Ytnlmjeakdjmohaa
open Go.RowKit
set_option linter.unusedVariables false
def mtB (v w : Wy) : Bool := (mtR v.1 v.2.1 v.2.2 w.1 w.2.1 w.2.2).isSome
/-- those of a list that do not meet a way -/
def paF (B : List Wy) (v : Wy) : List Wy := B.filter fun w => !mtB v w
def paR (B : List Wy) (v : Wy) : List (List Wy) := (paF B v).map fun w => [v, w]
def paL (A B : List Wy) : List (List Wy) := A.flatMap (paR B)
theorem paL_twos (A B : List Wy) : ∀ l ∈ paL A B, l.length = 2 := by
  intro l hl
  unfold paL at hl
  rw [List.mem_flatMap] at hl
  obtain ⟨v, _, hl⟩ := hl
  unfold paR at hl
  rw [List.mem_map] at hl
  obtain ⟨w, _, rfl⟩ := hl
  rfl
theorem paL_take (A B : List Wy) {k : Nat} (hk : k < A.length) : paL (A.take (k + 1)) B = paL (A.take k) B ++ paR B (wg A k) := by
  unfold paL
  rw [List.take_add_one, List.flatMap_append]
  congr 1
  rw [List.getElem?_eq_getElem hk]
  show List.flatMap (paR B) [A[k]] = _
  rw [List.flatMap_cons, List.flatMap_nil, List.append_nil]
  unfold wg
  rw [List.getD_eq_getElem?_getD, List.getElem?_eq_getElem hk]
  rfl
theorem paL_mono (A B : List Wy) : ∀ d k, (paL (A.take k) B).length ≤ (paL (A.take (k + d)) B).length
  | 0, k => Nat.le_refl _
  | d + 1, k => by
    refine Nat.le_trans (paL_mono A B d k) ?_
    by_cases h : k + d < A.length
    · rw [show k + (d + 1) = (k + d) + 1 by omega, paL_take A B h, List.length_append]
      omega
    · rw [List.take_of_length_le (show A.length ≤ k + d by omega), List.take_of_length_le (show A.length ≤ k + (d + 1) by omega)]
      exact Nat.le_refl _
theorem cells_pcs {x y : Int} {p : List UInt8} (h : enB p) (T : Int → Int → Bool) :
    (∃ k, k < p.length + 1 ∧ T ((clF (txT p) x y p.length).getD (k * 2) 0) ((clF (txT p) x y p.length).getD (k * 2 + 1) 0) = true) ↔ ∃ c ∈ pcs x y p, T c.1 c.2 = true := by
  constructor
  · rintro ⟨k, hk, ht⟩
    have h1 : hasF (p.length + 1) (clF (txT p) x y p.length) ((clF (txT p) x y p.length).getD (k * 2) 0) ((clF (txT p) x y p.length).getD (k * 2 + 1) 0) = true := hasF_iff.2 ⟨k, hk, rfl, rfl⟩
    rw [hasF_pcs h, List.contains_iff_mem] at h1
    exact ⟨_, h1, ht⟩
  · rintro ⟨c, hc, ht⟩
    have h1 : hasF (p.length + 1) (clF (txT p) x y p.length) c.1 c.2 = true := by
      rw [hasF_pcs h, List.contains_iff_mem]
      exact hc
    obtain ⟨k, hk, e1, e2⟩ := hasF_iff.1 h1
    exact ⟨k, hk, by rw [e1, e2]; exact ht⟩
theorem mtB_pcs {V : Wy} (hV : wayB V.1 V.2.1 V.2.2 = true) {x y : Int} {p : List UInt8} (hw : wayB x y (txT p) = true) (hp : enB p) :
    mtB V (x, y, txT p) = true ↔ ∃ c ∈ pcs x y p, hasF (V.2.2.size + 1) (clF V.2.2 V.1 V.2.1 V.2.2.size) c.1 c.2 = true := by
  unfold mtB
  show (mtR V.1 V.2.1 V.2.2 x y (txT p)).isSome = true ↔ _
  rw [mtR_sym]
  unfold mtR
  rw [mtI_isSome]
  unfold ncN ncX
  rw [if_pos hV, if_pos hV, if_pos hw, if_pos hw, txT_size, ← cells_pcs hp]
  constructor
  · rintro ⟨k, _, hk, h⟩
    exact ⟨k, by omega, h⟩
  · rintro ⟨k, hk, h⟩
    exact ⟨k, Nat.zero_le _, by omega, h⟩
theorem sp_past {V : Wy} (hV : wayB V.1 V.2.1 V.2.2 = true) {x y u v : Int} (h1 : cellB x y = true) (h2 : cellB u v = true) :
    spF (hasF (V.2.2.size + 1) (clF V.2.2 V.1 V.2.1 V.2.2.size)) u v 25 x y = (txF 25 (u - x) (v - y)).filter fun p => !mtB V (x, y, txT p) := by
  have e := spF_filter noT (hasF (V.2.2.size + 1) (clF V.2.2 V.1 V.2.1 V.2.2.size)) u v 25 x y
  have e0 : (fun a b => noT a b || hasF (V.2.2.size + 1) (clF V.2.2 V.1 V.2.1 V.2.2.size) a b) = hasF (V.2.2.size + 1) (clF V.2.2 V.1 V.2.1 V.2.2.size) := by
    funext a b
    rfl
  rw [e0] at e
  rw [e, ← spF_tx]
  apply List.filter_congr
  intro p hp
  have hw := spF_way hp h1 h2
  have hen := (spF_mem 25 x y p hp).2.2.2
  have hm := mtB_pcs hV hw hen
  rw [Bool.eq_iff_iff]
  rw [List.all_eq_true, Bool.not_eq_true', ← Bool.not_eq_true, hm]
  constructor
  · rintro h ⟨c, hc, ht⟩
    have := h c hc
    rw [ht] at this
    cases this
  · intro h c hc
    rw [Bool.not_eq_true', ← Bool.not_eq_true]
    exact fun ht => h ⟨c, hc, ht⟩
theorem wp_pa {V : Wy} (hV : wayB V.1 V.2.1 V.2.2 = true) {x y u v : Int} (h1 : cellB x y = true) (h2 : cellB u v = true) (most : Nat) :
    wpL x y u v (V.2.2.size + 1) (clF V.2.2 V.1 V.2.1 V.2.2.size) most = (paF (awL x y u v) V).take most := by
  unfold wpL paF awL txM
  rw [sp_past hV h1 h2, List.map_map, List.map_map, List.filter_map, List.map_take]
  rfl
def apaL (a0 a1 b0 b1 c0 c1 d0 d1 : Int) : List (List Wy) := paL (awL a0 a1 c0 c1) (awL b0 b1 d0 d1)
def apaOk (a0 a1 b0 b1 c0 c1 d0 d1 : Int) : Bool := (awOk a0 a1 c0 c1 && awOk b0 b1 d0 d1) && decide ((apaL a0 a1 b0 b1 c0 c1 d0 d1).length ≤ 200)
def apaV (a0 a1 b0 b1 c0 c1 d0 d1 : Int) : List (List Wy) := if apaOk a0 a1 b0 b1 c0 c1 d0 d1 = true then apaL a0 a1 b0 b1 c0 c1 d0 d1 else []
theorem apaV_len (a0 a1 b0 b1 c0 c1 d0 d1 : Int) : (apaV a0 a1 b0 b1 c0 c1 d0 d1).length ≤ 1000 := by
  unfold apaV
  split
  · rename_i h
    unfold apaOk at h
    rw [Bool.and_eq_true, decide_eq_true_eq] at h
    omega
  · simp
theorem apaV_twos (a0 a1 b0 b1 c0 c1 d0 d1 : Int) : ∀ j, j < (apaV a0 a1 b0 b1 c0 c1 d0 d1).length → ((apaV a0 a1 b0 b1 c0 c1 d0 d1).getD j []).length = 2 := by
  intro j hj
  unfold apaV at *
  split at hj
  · rename_i h
    rw [if_pos h, List.getD_eq_getElem?_getD, List.getElem?_eq_getElem hj]
    exact paL_twos _ _ _ (List.getElem_mem hj)
  · simp at hj
end Go.Proofs.Ytnlmjeakdjmohaa
