/- The model's kiDet. -/
import Derived.Test.YtahnknbggacndaaDetMath
import Derived.Test.YtahnknbggacndaaTOwn
import Derived.IntWalk
namespace Go.Proofs.Ytahnknbggacndaa
open Go.RowKit
set_option maxRecDepth 100000 in
set_option linter.unusedVariables false
/-- append of what a slice holds that is only read, at a step of a region that draws its order -/
theorem step_extendR {ops : Array Oper} {o : Oper} {a : Act} {K : Act → World → Prop} {Q : Exit → Act → World → Prop} {E : Prop} {w : World} (s x : Operand) (hgd : o.guard = none)
    (ho : o.op = .call { callee := .builtin .append, args := #[s, x], argTypes := #[104, 104] })
    (B : Nat) (v u : Value) (xs ys : List Int) (hs : a.eval s = v) (hown : IRow w B v xs) (hx : a.eval x = u) (hr : RInts w u ys)
    (hlen : xs.length + ys.length ≤ 1099511627776) (hB : B ≤ w.heap.size)
    (h : ∀ v' w', IRow w' B v' (xs ++ ys) → w.grownBy w' v.ownBlock → K (a.put o.dst v') w') :
    if Region.wanted o (yielded ops a.tmps) = true then Oper.wp Try.prog o a w K Q else E := by
  have hw : Region.wanted o (yielded ops a.tmps) = true := by simp [Region.wanted, hgd]
  rw [if_pos hw]
  obtain ⟨v', w', hr, h2, h3⟩ := run_extendR w o.type B v u xs ys hown hr hlen hB
  unfold Oper.wp execOp
  simp only [ho, resolve, invoke, builtin, Sem.run_bind, Sem.run_pure, Result.andThen_ok, List.map_toArray, List.map_cons, List.map_nil, hs, hx, hr]
  exact h v' w' h2 h3
/-- rows that are only read, with their room -/
structure MRows (w : World) (v : Value) (xss : List (List Int)) : Prop where
  rows : LRows w v xss
  room : ∀ A n c, v = .slice A n c → n ≤ c ∧ c ≤ maxLen
theorem TRow.mrows {w : World} {B M : Nat} {v : Value} {vs : List Value} {xss : List (List Int)} (h : TRow w B M v vs xss) : MRows w v xss :=
  ⟨h.rows, fun A n c e => by
    rcases h.out.2 with ⟨h1, _⟩ | ⟨g, cap, cur, h1, _, _, h2, h3, _⟩
    · rw [h1] at e
      injection e with e1 e2 e3
      subst e2 e3
      exact ⟨Nat.le_refl _, by simp [maxLen]⟩
    · rw [h1] at e
      injection e with e1 e2 e3
      subst e2 e3
      exact ⟨h2, h3⟩⟩
theorem rints_empty (w : World) (a : Option Addr) (c : Nat) (hm : c ≤ maxLen) : RInts w (.slice a 0 c) [] :=
  ⟨⟨_, _, rfl⟩, fun A n c2 e => by injection e with e1 e2 e3; subst e2 e3; exact ⟨Nat.zero_le _, hm⟩, fun h => absurd h (by simp)⟩
theorem hat_alloc' {v v' : Value} {w : World} {o : Obj} (h : v'.ownBlock = v.ownBlock ∨ ∃ g, v'.ownBlock = some g ∧ (w.alloc o).heap.size ≤ g) : v'.ownBlock = v.ownBlock ∨ ∃ g, v'.ownBlock = some g ∧ w.heap.size ≤ g := by
  rcases h with h | ⟨g, h1, h2⟩
  · exact .inl h
  · exact .inr ⟨g, h1, by simp at h2; omega⟩
set_option maxRecDepth 100000 in
set_option maxHeartbeats 4000000 in
theorem kiDet_any : ∀ (n : Nat) (v : Value) (xss : List (List Int)) (w : World), n ≤ 4 → Sq n xss → MRows w v xss → Calls Try.prog 101 #[v] w (Ret w (.int .i64 (detF n xss)))
  | 0, v, xss, w, _, hs, hm => by
    obtain ⟨A, c, rfl⟩ := hm.rows.shape
    have h0 := hs.1
    rw [h0]
    clear hm hs h0
    go_enter Try.func101, Try.ntmps101
    go_wp2
    go_ret
    exact ⟨rfl, Below.refl _ _⟩
  | n + 1, v, xss, w, hn, hs, hm => by
    have IH : Hid (∀ v xss w, Sq n xss → MRows w v xss → Calls Try.prog 101 #[v] w (Ret w (.int .i64 (detF n xss)))) := Lib.hid fun v xss w h1 h2 => kiDet_any n v xss w (by omega) h1 h2
    have hl := hs.1
    obtain ⟨g, o, c, rfl, hg, hcells⟩ := hm.rows.cells (by omega)
    obtain ⟨hc1, hc2⟩ := hm.room _ _ _ rfl
    rw [hl] at hc1 hcells ⊢
    have HROW : Hid (∀ W, Below w.heap.size w W → ∀ i, i < n + 1 → ∃ gi oi ci, W.cell? ⟨g, o + i, none⟩ = some (.slice (some ⟨gi, oi, none⟩) (n + 1) ci) ∧ n + 1 ≤ ci ∧ ci ≤ maxLen ∧ gi < W.heap.size ∧ ∀ j, j < n + 1 → W.cell? ⟨gi, oi + j, none⟩ = some (.int .i64 ((xss.getD i []).getD j 0))) := Lib.hid fun W hW i hi => by
      obtain ⟨u, e, hu⟩ := hcells i hi
      have hli := (hs.2 i (by omega)).1
      obtain ⟨gi, oi, ci, rfl, hgi, hci⟩ := hu.cells (by omega)
      obtain ⟨m1, m2⟩ := hu.room _ _ _ rfl
      rw [hli] at e hci m1
      exact ⟨gi, oi, ci, (hW.cell (p := ⟨g, o + i, none⟩) hg).trans e, m1, m2, Nat.lt_of_lt_of_le hgi hW.size, fun j hj => (hW.cell (p := ⟨gi, oi + j, none⟩) hgi).trans (hci j hj)⟩
    obtain ⟨g0, o0, c0, e0, m1, m2, hg0, hc0⟩ := HROW.out w (Below.refl _ _) 0 (by omega)
    rw [Nat.add_zero] at e0
    have HC0 : Hid (∀ W, Below w.heap.size w W → ∀ j, j < n + 1 → W.cell? ⟨g0, o0 + j, none⟩ = some (.int .i64 ((xss.getD 0 []).getD j 0))) := Lib.hid fun W hW j hj => (hW.cell (p := ⟨g0, o0 + j, none⟩) hg0).trans (hc0 j hj)
    have HS := Lib.hid hs
    have q0 : ((n : Int) + 1 == 0) = false := beq_eq_false_iff_ne.2 (by omega)
    have EF : Hid (dtS (dtT n xss) (n + 1) = detF (n + 1) xss) := Lib.hid rfl
    clear hcells hm hs hc0 hl
    go_enter Try.func101, Try.ntmps101
    go_wp2_with fail
    go_loopw [3, 4, 17] (fun s q i wr => ∃ j : Nat, j ≤ n + 1 ∧ i = .int .i64 (j : Int) ∧ s = .int .i64 (dtS (dtT n xss) j) ∧ q = .int .i64 (sgn j) ∧ Below w.heap.size w wr) (fun _ _ i _ => n + 1 - (intOf i).toNat)
    case atStart => exact ⟨0, Nat.zero_le _, rfl, rfl, rfl, Below.refl _ _⟩
    case round =>
      obtain ⟨j, hj, rfl, rfl, rfl, hb⟩ := hrel
      by_cases hlt : j < n + 1
      · obtain ⟨w0, rfl⟩ : ∃ w0, w0 = wr := ⟨_, rfl⟩
        have e1 := HC0.out _ hb j hlt
        obtain ⟨x, hx⟩ : ∃ x, x = (xss.getD 0 []).getD j 0 := ⟨_, rfl⟩
        rw [← hx] at e1
        have HX := Lib.hid hx
        clear hx
        have i1 : (j : Int) < (n : Int) + 1 := by omega
        by_cases hk : c = 1
        · have HB := Lib.hid hb
          have hn0 : n ≤ 0 := by omega
          clear hb
          subst hk
          go_wp2_with fail
          go_loopw [7, 25] (fun l i wz => ∃ (p M : Nat) (vs : List Value), p ≤ n ∧ i = .int .i64 (p : Int) ∧ TRow wz w0.heap.size M l vs ((minr xss j).take p) ∧ w0.heap.size ≤ M ∧ Below w0.heap.size w0 wz) (fun _ i _ => n - (intOf i).toNat)
          case atStart => exact ⟨0, w0.heap.size, [], Nat.zero_le _, rfl, TRow.nil (Nat.le_refl _), Nat.le_refl _, Below.refl _ _⟩
          case round =>
            obtain ⟨p, M, vs, hp, rfl, htr, hM, hbz⟩ := hrel
            have hlp : ¬ p < n := by omega
            have e2 : (minr xss j).take p = minr xss j := List.take_of_length_le (by rw [minr_length, HS.out.1]; omega)
            rw [e2] at htr
            have HD := Lib.hid (IH.out _ _ _ (minr_sq HS.out hlt) htr.mrows)
            obtain ⟨A, cl, rfl⟩ := htr.out.shape
            have e3 : p = n := by omega
            have hBX : Below w.heap.size w wr := HB.out.trans (hbz.mono HB.out.size)
            have hsX := hBX.size
            have b1 := dtS_small (n := n) (by omega) HS.out (j := j) (by omega)
            have b2 := dtS_small (n := n) (by omega) HS.out (j := j + 1) (by omega)
            have b3 := dtT_bd (n := n) (by omega) HS.out (j := j) (by omega)
            have b4 := sx_bd (j := j) (((HS.out.2 0 (by omega)).2 j (by omega)))
            have b5 : -1 ≤ sgn j ∧ sgn j ≤ 1 := by rcases sgn_bd j with h | h <;> omega
            have HN : Hid (dtS (dtT n xss) (j + 1) = dtS (dtT n xss) j + sgn j * x * detF n (minr xss j)) := Lib.hid (by rw [HX.out]; rfl)
            have b6 : dtS (dtT n xss) (j + 1) = dtS (dtT n xss) j + dtT n xss j := rfl
            rw [b6] at b2
            unfold dtT at b3
            rw [← HX.out] at b3 b4
            have HSG : Hid (sgn (j + 1) = -sgn j) := Lib.hid rfl
            clear htr e2 hbz b6
            generalize dtT n xss j = T at b2
            clear b2
            generalize dtS (dtT n xss) j = S at *
            generalize detF n (minr xss j) = D at *
            generalize sgn j = q at *
            have b7 : -300000000000000000 ≤ S + q * x * D ∧ S + q * x * D ≤ 300000000000000000 := by omega
            subst e3
            go_wp2_with (go_at_call 101; refine HD.out.mono ?_; rintro e w2 ⟨rfl, hb2⟩)
            have HB2 := Lib.hid (hBX.trans (hb2.mono hsX))
            go_roundw
            case rel => exact ⟨j + 1, by omega, by go_num, by rw [HN.out], by rw [HSG.out], HB2.out⟩
            case measure => simp [intOf]; omega
        · have HB := Lib.hid hb
          clear hb
          go_wp2_with fail
          go_loopw [7, 25] (fun l i wz => ∃ (p M : Nat) (vs : List Value), p ≤ n ∧ i = .int .i64 (p : Int) ∧ TRow wz w0.heap.size M l vs ((minr xss j).take p) ∧ w0.heap.size ≤ M ∧ Below w0.heap.size w0 wz) (fun _ i _ => n - (intOf i).toNat)
          case atStart => exact ⟨0, w0.heap.size, [], Nat.zero_le _, rfl, TRow.nil (Nat.le_refl _), Nat.le_refl _, Below.refl _ _⟩
          case round =>
            obtain ⟨p, M, vs, hp, rfl, htr, hM, hbz⟩ := hrel
            by_cases hlp : p < n
            · have hz0 := HB.out.size
              obtain ⟨gi, oi, ci, r1, r2, r3, r4, r5⟩ := HROW.out wr (HB.out.trans (hbz.mono hz0)) (p + 1) (by omega)
              rw [show o + (p + 1) = o + 1 + p by omega] at r1
              obtain ⟨A, cl, rfl⟩ := htr.out.shape
              have hvl : vs.length = p := by rw [htr.len, List.length_take, minr_length, HS.out.1]; omega
              have i2 : (p : Int) < (n : Int) := by omega
              have hri := (HS.out.2 (p + 1) (by omega)).1
              have hlen : (minr xss j).length = n := by rw [minr_length, HS.out.1]; rfl
              have HMR : Hid ((minr xss j).take (p + 1) = (minr xss j).take p ++ [(xss.getD (p + 1) []).take j ++ (xss.getD (p + 1) []).drop (j + 1)]) := Lib.hid (by
                rw [← minr_get _ _ _ (by rw [HS.out.1]; omega), List.take_succ_eq_append_getElem (by omega), List.getD_eq_getElem?_getD, List.getElem?_eq_getElem (by omega)]
                rfl)
              clear hlen
              generalize xss.getD (p + 1) [] = r at *
              have HT := Lib.hid htr
              have HBZ := Lib.hid hbz
              have hMw := htr.size
              have hbd : Below wr.heap.size wr wr.drew := (Below.refl _ _).drew
              have HOWN : Hid (∀ w1, Below wr.heap.size wr w1 → Calls Try.prog 118 #[.slice (some ⟨gi, oi, none⟩) j ci] w1 (IntsNew w1 (r.take j))) := Lib.hid fun w1 hb1 => by
                have e : (r.take j).length = j := by rw [List.length_take]; omega
                have := l1Own_any gi oi ci (r.take j) w1 (Nat.lt_of_lt_of_le r4 hb1.size) (fun i hi => by
                  rw [e] at hi
                  rw [List.getD_eq_getElem?_getD, List.getElem?_take, if_pos hi, ← List.getD_eq_getElem?_getD]
                  exact (hb1.cell (p := ⟨gi, oi + i, none⟩) r4).trans (r5 i (by omega))) (by omega)
                rwa [e] at this
              have HLR : Hid (r.length = n + 1) := Lib.hid hri
              have i3 : (j : Int) + 1 ≤ (n : Int) + 1 := by omega
              have i4 : (n : Int) + 1 ≤ (ci : Int) := by omega
              have i5 : (j : Int) ≤ (ci : Int) := by omega
              have i6 : (j : Int) + 1 ≤ (ci : Int) := by omega
              have R5 := Lib.hid r5
              have HVL := Lib.hid hvl
              clear htr hbz r5 hri hvl
              by_cases hci : ci = j + 1
              · have hjn : n = j := by omega
                have HU : Hid (∀ w1, Below wr.heap.size wr w1 → RInts w1 (.slice (some ⟨gi, oi, none⟩) 0 0) (r.drop (j + 1))) := Lib.hid fun w1 hb1 => by
                  rw [List.drop_of_length_le (by rw [HLR.out]; omega)]
                  exact rints_empty _ _ _ (by unfold maxLen; omega)
                clear hjn
                subst hci
                have i7 : (j : Int) ≤ (j : Int) + 1 := by omega
                have HLL : Hid ((r.take j).length + (r.drop (j + 1)).length ≤ 1099511627776) := Lib.hid (by rw [List.length_take, List.length_drop, HLR.out]; omega)
                have HVB : Hid (vs.length ≤ 2000000) := Lib.hid (by rw [HVL.out]; omega)
                have HWZ : Hid (∀ x : World, wr.heap.size ≤ x.heap.size → ∀ ob, w0.heap.size ≤ (x.alloc ob).heap.size) := Lib.hid fun x hx ob => by simp; omega
                have k1 := IntWalk.i64_in ((j : Int) + 1) (by omega)
                have k2 : 0 ≤ (j : Int) + 1 := by omega
                have k3 : ((j : Int) + 1).toNat = j + 1 := by omega
                go_wp2_with fail
                go_region_law (first
                  | (go_simp; go_at_call 118; refine (HOWN.out _ hbd).mono ?_; rintro e w1 ⟨v1, rfl, hr1, hb1⟩; have hb2 : Below wr.heap.size wr w1 := hbd.trans hb1)
                  | (refine step_extendR (.tmp 33) (.tmp 37) rfl rfl wr.heap.size _ _ _ _ (by rfl) hr1 (by rfl) (HU.out _ hb2) HLL.out hb2.size ?_; intro v2 w2' hr2 hg2; have hb3 : Below wr.heap.size wr w2' := hb2.grown hg2 hb2.size (fun q hq => (hr1.blk q hq).1); have ht3 := HT.out.below hb3; have hz3 := hb3.size; obtain ⟨A2, c2, rfl⟩ := hr2.shape)
                  | (refine step_pushV (.tmp 29) (.tmp 39) rfl rfl w0.heap.size _ vs (by rfl) (ht3.out.alloc _) w2'.heap.size _ (by rfl) (by simp; rfl) rfl HVB.out (HWZ.out _ hz3 _) ?_; intro v3 w3' hr3 hg3 hat3))
                rw [show min j r.length + (r.length - (j + 1)) = (r.take j ++ r.drop (j + 1)).length by simp] at hr3
                have hgl := grown_alloc_left hg3
                have HT3 := Lib.hid (ht3.push (hr2.mono hMw) hM hr3 hgl (hat_alloc' hat3))
                have HB3 := Lib.hid ((HBZ.out.trans (hb3.mono HBZ.out.size)).grown hgl (Nat.le_trans HBZ.out.size hb3.size) (fun q hq => (ht3.outB q hq).1))
                clear ht3 hr2 hr3 hgl hat3 hg3 k1 k2 k3
                go_wp2_with fail
                exact ⟨⟨p + 1, w3'.heap.size, _, by omega, by go_num, by rw [HMR.out]; exact HT3.out, HB3.out.size, HB3.out⟩, by simp [intOf]; omega⟩
              · have HU : Hid (∀ w1, Below wr.heap.size wr w1 → RInts w1 (.slice (some ⟨gi, oi + (j + 1), none⟩) (n - j) (ci - (j + 1))) (r.drop (j + 1))) := Lib.hid fun w1 hb1 =>
                  RInts.part (c := ci) (j + 1) (n - j) (ci - (j + 1)) (Nat.lt_of_lt_of_le r4 hb1.size) (fun i hi => by
                    rw [HLR.out] at hi
                    exact (hb1.cell (p := ⟨gi, oi + i, none⟩) r4).trans (R5.out i hi)) _ (by rw [List.take_of_length_le (by rw [List.length_drop, HLR.out]; omega)]) (by rw [HLR.out]; omega) (by omega) (by omega)
                have HLL : Hid ((r.take j).length + (r.drop (j + 1)).length ≤ 1099511627776) := Lib.hid (by rw [List.length_take, List.length_drop, HLR.out]; omega)
                have HVB : Hid (vs.length ≤ 2000000) := Lib.hid (by rw [HVL.out]; omega)
                have HWZ : Hid (∀ x : World, wr.heap.size ≤ x.heap.size → ∀ ob, w0.heap.size ≤ (x.alloc ob).heap.size) := Lib.hid fun x hx ob => by simp; omega
                have k1 := IntWalk.i64_in ((j : Int) + 1) (by omega)
                have k2 : 0 ≤ (j : Int) + 1 := by omega
                have k3 : ((j : Int) + 1).toNat = j + 1 := by omega
                go_wp2_with fail
                go_region_law (first
                  | (go_simp; go_at_call 118; refine (HOWN.out _ hbd).mono ?_; rintro e w1 ⟨v1, rfl, hr1, hb1⟩; have hb2 : Below wr.heap.size wr w1 := hbd.trans hb1)
                  | (refine step_extendR (.tmp 33) (.tmp 37) rfl rfl wr.heap.size _ _ _ _ (by rfl) hr1 (by rfl) (HU.out _ hb2) HLL.out hb2.size ?_; intro v2 w2' hr2 hg2; have hb3 : Below wr.heap.size wr w2' := hb2.grown hg2 hb2.size (fun q hq => (hr1.blk q hq).1); have ht3 := HT.out.below hb3; have hz3 := hb3.size; obtain ⟨A2, c2, rfl⟩ := hr2.shape)
                  | (refine step_pushV (.tmp 29) (.tmp 39) rfl rfl w0.heap.size _ vs (by rfl) (ht3.out.alloc _) w2'.heap.size _ (by rfl) (by simp; rfl) rfl HVB.out (HWZ.out _ hz3 _) ?_; intro v3 w3' hr3 hg3 hat3))
                rw [show min j r.length + (r.length - (j + 1)) = (r.take j ++ r.drop (j + 1)).length by simp] at hr3
                have hgl := grown_alloc_left hg3
                have HT3 := Lib.hid (ht3.push (hr2.mono hMw) hM hr3 hgl (hat_alloc' hat3))
                have HB3 := Lib.hid ((HBZ.out.trans (hb3.mono HBZ.out.size)).grown hgl (Nat.le_trans HBZ.out.size hb3.size) (fun q hq => (ht3.outB q hq).1))
                clear ht3 hr2 hr3 hgl hat3 hg3 k1 k2 k3
                go_wp2_with fail
                exact ⟨⟨p + 1, w3'.heap.size, _, by omega, by go_num, by rw [HMR.out]; exact HT3.out, HB3.out.size, HB3.out⟩, by simp [intOf]; omega⟩
            · have e2 : (minr xss j).take p = minr xss j := List.take_of_length_le (by rw [minr_length, HS.out.1]; omega)
              rw [e2] at htr
              have HD := Lib.hid (IH.out _ _ _ (minr_sq HS.out hlt) htr.mrows)
              obtain ⟨A, cl, rfl⟩ := htr.out.shape
              have e3 : p = n := by omega
              have hBX : Below w.heap.size w wr := HB.out.trans (hbz.mono HB.out.size)
              have hsX := hBX.size
              have b1 := dtS_small (n := n) (by omega) HS.out (j := j) (by omega)
              have b2 := dtS_small (n := n) (by omega) HS.out (j := j + 1) (by omega)
              have b3 := dtT_bd (n := n) (by omega) HS.out (j := j) (by omega)
              have b4 := sx_bd (j := j) (((HS.out.2 0 (by omega)).2 j (by omega)))
              have b5 : -1 ≤ sgn j ∧ sgn j ≤ 1 := by rcases sgn_bd j with h | h <;> omega
              have HN : Hid (dtS (dtT n xss) (j + 1) = dtS (dtT n xss) j + sgn j * x * detF n (minr xss j)) := Lib.hid (by rw [HX.out]; rfl)
              have b6 : dtS (dtT n xss) (j + 1) = dtS (dtT n xss) j + dtT n xss j := rfl
              rw [b6] at b2
              unfold dtT at b3
              rw [← HX.out] at b3 b4
              have HSG : Hid (sgn (j + 1) = -sgn j) := Lib.hid rfl
              clear htr e2 hbz b6
              generalize dtT n xss j = T at b2
              clear b2
              generalize dtS (dtT n xss) j = S at *
              generalize detF n (minr xss j) = D at *
              generalize sgn j = q at *
              have b7 : -300000000000000000 ≤ S + q * x * D ∧ S + q * x * D ≤ 300000000000000000 := by omega
              subst e3
              go_wp2_with (go_at_call 101; refine HD.out.mono ?_; rintro e w2 ⟨rfl, hb2⟩)
              have HB2 := Lib.hid (hBX.trans (hb2.mono hsX))
              go_roundw
              case rel => exact ⟨j + 1, by omega, by go_num, by rw [HN.out], by rw [HSG.out], HB2.out⟩
              case measure => simp [intOf]; omega
      · obtain rfl : j = n + 1 := by omega
        rw [EF.out]
        generalize detF (n + 1) xss = D at *
        go_wp2_with fail
        go_ret
        exact ⟨rfl, hb⟩
end Go.Proofs.Ytahnknbggacndaa
