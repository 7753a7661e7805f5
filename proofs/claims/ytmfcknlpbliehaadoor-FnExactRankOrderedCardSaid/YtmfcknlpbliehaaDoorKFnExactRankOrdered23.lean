/- Pack 23 of what FnExactRankOrdered needs: EqS, RacJ. -/
import Derived.Test.YtmfcknlpbliehaaDoorKFnExactRankOrdered22
import Derived.Laws.StructEq
import Derived.ChangeKeysEq
/- Two standings held against each other. -/
namespace Go.Proofs.YtmfcknlpbliehaaDoor
@[go_sem] theorem eqS (a b c d a' b' c' d' : Int) (w : World) : (Op.equalIn 10000 38 (.agg #[.int .i64 a, .int .i64 b, .int .i64 c, .int .i64 d]) (.agg #[.int .i64 a', .int .i64 b', .int .i64 c', .int .i64 d'])).run Tryd.prog w = .ok (a == a' && (b == b' && (c == c' && d == d'))) w := by
  have u3 := Tryd.underlying3
  have a3 := Tryd.isAgg3
  have z3 := Tryd.sizeOf3
  rw [show (10000 : Nat) = 9999 + 1 from rfl, Op.equalIn]
  simp only [Sem.run_bind, run_underlying Tryd.underlying38, Result.andThen_ok]
  simp only [Std.Legacy.Range.forIn_eq_forIn_range', Std.Legacy.Range.size, Nat.sub_zero, Nat.add_sub_cancel, Nat.div_one, List.range'_succ, List.range'_zero, List.forIn_cons, List.forIn_nil]
  go_simp
  by_cases h1 : a = a' <;> by_cases h2 : b = b' <;> by_cases h3 : c = c' <;> by_cases h4 : d = d' <;> simp [h1, h2, h3, h4]
theorem eqSg (op : BinOp) (x y : Operand) (xs ys : Array Value) (w : World) : (eqGuard op 38 x y (.agg xs) (.agg ys)).run Tryd.prog w = .ok () w := run_eqGuard_agg w op _ x y xs ys (by kernel_rfl)
attribute [go_sem] eqSg
end Go.Proofs.YtmfcknlpbliehaaDoor

/- waysOn: how many ways lead on. -/
namespace Go.Proofs.YtmfcknlpbliehaaDoor
open Go.RowKit
set_option linter.unusedVariables false
theorem wpList_lookW2 {ops : Array Oper} {rest : List Oper} {o : Oper} {a : Act} {Q : Exit → Act → World → Prop} {w : World} (m x : Operand) (hg : o.guard = none) (ho : o.op = Op.lookup 41 m x true)
    {mb : Nat} {V : (Nat → Nat) → Nat} (hm : a.eval m = .map (some mb)) (h : MapW w mb V) (hV : ∀ p q, (∀ j, j < 4 → p j = q j) → V p = V q) (p : Nat → Nat) (hx : a.eval x = stA p) (hp : sm p)
    (h0 : wpList Tryd.prog ops Q rest (a.put o.dst (.tuple #[.int .i64 ((0 : Nat) : Int), .bool false])) w)
    (h1 : wpList Tryd.prog ops Q rest (a.put o.dst (.tuple #[.int .i64 ((V p : Nat) : Int), .bool true])) w) :
    wpList Tryd.prog ops Q (o :: rest) a w := by
  refine wpList_lookW m x hg ho hm h hV p hx hp ?_
  intro y ok e1 e0
  cases ok
  · rw [e0 rfl]; exact h0
  · rw [e1 rfl]; exact h1
theorem eq_same (R p : Nat → Nat) : ((((p 0 : Nat) : Int) == ((R 0 : Nat) : Int)) && ((((p 1 : Nat) : Int) == ((R 1 : Nat) : Int)) && ((((p 2 : Nat) : Int) == ((R 2 : Nat) : Int)) && (((p 3 : Nat) : Int) == ((R 3 : Nat) : Int))))) = decide (same R p) := by
  by_cases h : same R p
  · rw [decide_eq_true h]
    obtain ⟨h0, h1, h2, h3⟩ := h
    rw [h0, h1, h2, h3]
    simp
  · rw [decide_eq_false h, Bool.eq_false_iff]
    intro hx
    simp only [Bool.and_eq_true, beq_iff_eq] at hx
    exact h ⟨by omega, by omega, by omega, by omega⟩
set_option maxRecDepth 100000 in
set_option maxHeartbeats 4000000 in
theorem waysOn_step (R p : Nat → Nat) (mb : Nat) (w : World) (hR : sm R) (hR16 : tot R ≤ 16) (hp : Ok R p) (h : MapW w mb (W R))
    (IH : ∀ i, i < 4 → ¬ no R p i → ∀ w, MapW w mb (W R) → Calls Tryd.prog 43 #[raceV R mb, stA (up p i)] w (WayRet w mb R (W R (up p i)))) :
    Calls Tryd.prog 43 #[raceV R mb, stA p] w (WayRet w mb R (W R p)) := by
  have hps : sm p := fun j hj => Nat.le_trans (hp.le j hj) (hR j hj)
  have HS := Lib.hid (SR.start (p := p) (i := 0) h (by omega) 43 38)
  have HB : Hid (∀ i : Nat, i < 4 → ∀ W9, SR R p 0 mb w W9 → Calls Tryd.prog 35 #[.agg #[.int .i64 ((R 0 : Nat) : Int), .int .i64 ((R 1 : Nat) : Int), .int .i64 ((R 2 : Nat) : Int), .int .i64 ((R 3 : Nat) : Int), .map (some mb)], .agg #[.int .i64 ((p 0 : Nat) : Int), .int .i64 ((p 1 : Nat) : Int), .int .i64 ((p 2 : Nat) : Int), .int .i64 ((p 3 : Nat) : Int)], .int .i64 (i : Int)] W9 fun e w' => e = .returned (.int .i64 ((byW R p i : Nat) : Int)) ∧ SR R p 0 mb w w') := Lib.hid fun i hi W9 hW => (waysBy_any R p i mb W9 hi hR hps hW.2.2.2.1 (IH i hi)).mono fun _ _ ⟨h1, h2, h3⟩ => ⟨h1, hW.step h2 h3⟩
  clear IH
  unfold raceV stA
  by_cases hs : same R p
  · rw [W_end hs]
    have hq := (eq_same R p).trans (decide_eq_true hs)
    clear hs hp
    go_enter Tryd.func43, Tryd.ntmps43
    go_wp2
    go_ret
    exact SR.fin HS.out rfl
  · have HW : Hid (W R p = byS R p 4) := Lib.hid (W_eq hp hs)
    have HWB : Hid (∀ k, k ≤ 4 → byS R p k ≤ 17179869184) := Lib.hid fun k hk => Nat.le_trans (byS_bd hR16 k) (by omega)
    have hq := (eq_same R p).trans (decide_eq_false hs)
    have HM := Lib.hid HS.out.2.2.2.1
    have HQ := Lib.hid hps
    clear hs hp hps
    go_enter Tryd.func43, Tryd.ntmps43
    go_wp2_with (first | (refine wpList_lookW2 (.tmp 14) (.tmp 15) rfl rfl rfl HM.out (W_congr R) p rfl HQ.out ?_ ?_))
    rotate_left
    · go_ret
      exact SR.fin HS.out rfl
    go_loopw [5, 21] (fun s i wr => ∃ k : Nat, k ≤ 4 ∧ i = .int .i64 (k : Int) ∧ s = .int .i64 ((byS R p k : Nat) : Int) ∧ SR R p 0 mb w wr) (fun _ i _ => 4 - (intOf i).toNat)
    case atStart => exact ⟨0, Nat.zero_le _, rfl, rfl, HS.out⟩
    case round =>
      obtain ⟨k, hk, rfl, rfl, hb⟩ := hrel
      clear HM HS
      by_cases hlt : k < 4
      · have i1 : (k : Int) < 4 := by omega
        have HBK : Hid (∀ W9, SR R p 0 mb w W9 → Calls Tryd.prog 35 #[.agg #[.int .i64 ((R 0 : Nat) : Int), .int .i64 ((R 1 : Nat) : Int), .int .i64 ((R 2 : Nat) : Int), .int .i64 ((R 3 : Nat) : Int), .map (some mb)], .agg #[.int .i64 ((p 0 : Nat) : Int), .int .i64 ((p 1 : Nat) : Int), .int .i64 ((p 2 : Nat) : Int), .int .i64 ((p 3 : Nat) : Int)], .int .i64 (k : Int)] W9 fun e w' => e = .returned (.int .i64 ((byW R p k : Nat) : Int)) ∧ SR R p 0 mb w w') := Lib.hid (HB.out k hlt)
        have HZ := Lib.hid hb
        have hs1 := HWB.out (k + 1) (by omega)
        have HE : Hid (byS R p (k + 1) = byS R p k + byW R p k) := Lib.hid rfl
        rw [HE.out] at hs1
        generalize byS R p k = S0 at *
        generalize byW R p k = B0 at *
        obtain ⟨⟨z0, z1, z2, z3, z4, z5, z6, z7, z8, z9, z10⟩, zr⟩ := id hb
        clear zr z9 z10 hb HB
        go_wp2_with (first | (go_at_call 35; refine (HBK.out _ HZ.out).mono ?_; rintro e w' ⟨rfl, hS'⟩))
        refine ⟨⟨k + 1, by omega, by go_num, by rw [HE.out]; go_num, hS'⟩, ?_⟩
        first | (simp [intOf]; done) | (simp [intOf]; omega)
      · obtain rfl : k = 4 := by omega
        have HZ := Lib.hid hb
        have hs1 := HWB.out 4 (by omega)
        rw [← HW.out] at hs1 ⊢
        have wv : (Lit.int .i64 ((W R p : Nat) : Int)).wf = true := WalkArith.wf_i64 (by omega)
        obtain ⟨⟨z0, z1, z2, z3, z4, z5, z6, z7, z8, z9, z10⟩, zr⟩ := id hb
        clear zr z9 z10 hb HB
        have HV : Hid (W R p = W R p) := Lib.hid rfl
        have HST : Hid (∀ {ops : Array Oper} {rest : List Oper} {o : Oper} {a : Act} {Q : Exit → Act → World → Prop} (hg : o.guard = none) (ho : o.op = Op.mapUpdate 41 (.tmp 32) (.tmp 33) (.tmp 34)) (hm : a.eval (.tmp 32) = .map (some mb)) (hx : a.eval (.tmp 33) = stA p) (hv : a.eval (.tmp 34) = .int .i64 ((W R p : Nat) : Int)) (h1 : ∀ w', SR R p 0 mb w w' → wpList Tryd.prog ops Q rest (a.put o.dst undef) w'), wpList Tryd.prog ops Q (o :: rest) a wr) := Lib.hid fun hg ho hm hx hv h1 => wpList_storeW _ _ _ hg ho hm HZ.out.2.2.2.1 p HQ.out hx hv wv (fun w' k1 k2 => h1 w' (HZ.out.step k1 k2))
        clear wv
        generalize W R p = V at *
        go_wp2_with (first | (refine HST.out rfl rfl rfl rfl rfl ?_; intro w5 hS5))
        go_ret
        exact SR.fin hS5 rfl
end Go.Proofs.YtmfcknlpbliehaaDoor
