/- Pack 31 of what FnExactFirstApart needs: PExt, EndI. -/
import Derived.Test.YtnlmjeakdjmohaaKFnExactFirstApart30
import Derived.Laws.OwnMore
/- append of what another slice of places holds. -/
namespace Go.Proofs.Ytnlmjeakdjmohaa
open Go.RowKit
set_option linter.unusedVariables false
theorem run_app_noneP {P : Program} (w : World) (base : Nat) (t ty e : TypeId) (i : TypeInfo) (size : Nat) (ht : P.underlying t = some (.slice e)) (hi : P.info? e = some i)
    (v : Value) (n c : Nat) (xs : List Value) (hown : w.ownsRow base e size v n xs) :
    (Builtin.append_ #[t, t] ty #[v, .slice none 0 c]).run P w = .ok v w := by
  rcases hown.2 with ⟨rfl, rfl⟩ | ⟨g, cap, cur, rfl, _, _, hnc, _⟩
  · simp [Builtin.append_, run_underlying ht, sizeOf, typeInfo, hi, Builtin.lenOf, Builtin.firstCells]
  · simp [Builtin.append_, run_underlying ht, sizeOf, typeInfo, hi, Builtin.lenOf, Builtin.firstCells, hnc, storeCells]
set_option maxRecDepth 100000 in
theorem run_extendP (w : World) (ty : TypeId) (B : Nat) (v u : Value) (n m : Nat) (xs ys : List Int) (hown : PRow w B v n xs) (hr : RPls w u m ys) (hy : ys.length = m * 2) (hlen : n + m ≤ 1048576) (hB : B ≤ w.heap.size) :
    ∃ v' w', (Builtin.append_ #[62, 62] ty #[v, u]).run Try.prog w = .ok v' w' ∧ PRow w' B v' (n + m) (xs ++ ys) ∧ w.grownBy w' v.ownBlock ∧ (v'.ownBlock = v.ownBlock ∨ ∃ g, v'.ownBlock = some g ∧ w.heap.size ≤ g) := by
  obtain ⟨i0, hi, hz0, hz1, hz2⟩ := info_parts plcInfo
  obtain ⟨A, c, rfl⟩ := hr.shape
  cases A with
  | none =>
    have h0 : m = 0 := by
      rcases Nat.eq_zero_or_pos m with h | h
      · exact h
      · obtain ⟨g, o, c', hv, _⟩ := hr.cells h
        cases hv
    subst h0
    rw [List.eq_nil_of_length_eq_zero (show ys.length = 0 by omega), List.append_nil]
    exact ⟨v, w, run_app_noneP w B 62 ty 103 i0 2 Try.underlying62 hi v n c (xs.map (Value.int .i64)) hown.1, hown, ⟨rfl, rfl, rfl, Nat.le_refl _, fun _ _ _ => rfl⟩, .inl rfl⟩
  | some ad =>
    obtain ⟨v', w', hr2, h2, h3, h4, h5⟩ := run_append_own_at (P := Try.prog) w B 62 ty 103 i0 (.agg #[.int .i64 0, .int .i64 0]) 2 16 Try.underlying62 hi hz0 hz1 hz2 rfl (by decide) v n (xs.map (Value.int .i64)) hown.1
      ad m c (ys.map (Value.int .i64)) (by simp [hy]) (by
        intro j y hj
        rw [List.getElem?_map] at hj
        rcases Nat.lt_or_ge j ys.length with hlt | hge
        · obtain ⟨g, o, cc, hv, _, hc⟩ := hr.cells (by omega)
          injection hv with hv
          injection hv with hv
          subst hv
          have e := hc j (by omega)
          rw [List.getD_eq_getElem?_getD] at e
          rw [List.getElem?_eq_getElem hlt] at hj e
          injection hj with hj
          subst hj
          have e2 : (⟨g, o, none⟩ : Addr).add j = ⟨g, o + j, none⟩ := by unfold Addr.add; split <;> simp_all
          rw [e2]
          exact e
        · rw [List.getElem?_eq_none hge] at hj
          cases hj) (by
        intro y hy
        rw [List.mem_map] at hy
        obtain ⟨n, _, rfl⟩ := hy
        rfl) (by unfold maxLen; omega) (by omega) hB
    refine ⟨v', w', hr2, ⟨?_, by rw [List.length_append, hown.2, hy]; omega⟩, h3, ?_⟩
    · rw [List.map_append]
      exact h2
    · rcases h5 with h5 | h5
      · exact .inl h5
      · exact .inr ⟨_, h5, Nat.le_refl _⟩
theorem wpList_extendP {ops : Array Oper} {rest : List Oper} {o : Oper} {a : Act} {Q : Exit → Act → World → Prop} {w : World} (s x : Operand) (hgd : o.guard = none)
    (ho : o.op = .call { callee := .builtin .append, args := #[s, x], argTypes := #[62, 62] })
    (B : Nat) (v u : Value) (n m : Nat) (xs ys : List Int) (hs : a.eval s = v) (hown : PRow w B v n xs) (hx : a.eval x = u) (hr : RPls w u m ys) (hy : ys.length = m * 2)
    (hlen : n + m ≤ 1048576) (hB : B ≤ w.heap.size)
    (h : ∀ v' w', PRow w' B v' (n + m) (xs ++ ys) → w.grownBy w' v.ownBlock → (v'.ownBlock = v.ownBlock ∨ ∃ g, v'.ownBlock = some g ∧ w.heap.size ≤ g) → wpList Try.prog ops Q rest (a.put o.dst v') w') :
    wpList Try.prog ops Q (o :: rest) a w := by
  refine wpList_plain hgd fun K hK => ?_
  obtain ⟨v', w', hr, h2, h3, h4⟩ := run_extendP w o.type B v u n m xs ys hown hr hy hlen hB
  unfold Oper.wp execOp
  simp only [ho, resolve, invoke, builtin, Sem.run_bind, Sem.run_pure, Result.andThen_ok, List.map_toArray, List.map_cons, List.map_nil, hs, hx, hr]
  exact hK _ _ (h v' w' h2 h3 h4)
end Go.Proofs.Ytnlmjeakdjmohaa

/- The program's areEnds. -/
namespace Go.Proofs.Ytnlmjeakdjmohaa
open Go.RowKit
set_option linter.unusedVariables false
theorem inBd_if5 {a lo hi : Int} (h : inBd lo hi a = true) : lo ≤ a ∧ a ≤ hi := by unfold inBd at h; simpa only [Bool.and_eq_true, decide_eq_true_eq] using h
set_option maxRecDepth 100000 in
set_option maxHeartbeats 2000000 in
theorem areEnds_any (v1 v2 : Value) (n m : Nat) (xs ys : List Int) (w : World) (h1 : RCels w v1 n xs) (h2 : RCels w v2 m ys) (hn : n ≤ 1048576) (hm : m ≤ 1048576) :
    Calls Try.prog 143 #[v1, v2] w (Ret w (.bool (gdB n xs m ys))) := by
  have HI : Hid (∀ (X : World) (g : Nat), g = X.heap.size → Calls Try.prog 130 #[.int .i64 1, .int .i64 4, .slice (some ⟨g, 0, none⟩) 1 1] (X.alloc (.cells #[.int .i64 (n : Int)] 3)) fun e w' => e = .returned (.bool (inBd 1 4 (n : Int))) ∧ Below X.heap.size X w') := Lib.hid fun X g hg => wth_1 1 4 (n : Int) X g hg
  have HC : Hid (∀ x y w, Calls Try.prog 122 #[celV x y] w (Ret w (.bool (cellB x y)))) := Lib.hid isCellI_ret
  obtain ⟨A1, p1, rfl⟩ := h1.shape
  obtain ⟨A2, p2, rfl⟩ := h2.shape
  rcases Bool.eq_false_or_eq_true (inBd 1 4 (n : Int)) with a1 | a1
  case inr =>
    have e1 : gdB n xs m ys = false := by unfold gdB; rw [a1]; rfl
    rw [e1]
    rw [a1] at HI
    clear e1 a1 h1 h2
    go_enter Try.func143, Try.ntmps143
    go_wp2_with (go_at_call 130; refine (HI.out _ _ rfl).mono ?_; rintro e w1 ⟨rfl, hb1⟩)
    go_ret
    exact ⟨rfl, hb1⟩
  have hn4 := inBd_if5 a1
  by_cases hmn : m = n
  case neg =>
    have e1 : gdB n xs m ys = false := by unfold gdB; rw [show (m == n) = false from beq_eq_false_iff_ne.2 hmn, Bool.and_false]; rfl
    have q1 : ((m : Int) != (n : Int)) = true := by simpa using fun h : (m : Int) = (n : Int) => hmn (by omega)
    rw [e1]
    rw [a1] at HI
    clear e1 a1 h1 h2
    go_enter Try.func143, Try.ntmps143
    go_wp2_with (go_at_call 130; refine (HI.out _ _ rfl).mono ?_; rintro e w1 ⟨rfl, hb1⟩)
    go_ret
    exact ⟨rfl, hb1⟩
  subst hmn
  have HY : Hid ((∀ k, k < m → (gdC xs k && gdC ys k) = true) → gdB m xs m ys = true) := Lib.hid (gdB_yes a1)
  have HN : Hid (∀ k, k < m → (gdC xs k && gdC ys k) = false → gdB m xs m ys = false) := Lib.hid fun k hk h => gdB_no hk h
  have HG : Hid (Gd w (.slice A1 m p1) (.slice A2 m p2) m m xs ys w) := Lib.hid ⟨h1, h2, Below.refl _ _⟩
  obtain ⟨g1, o1, c1, e1, _, _⟩ := h1.cells (by omega)
  obtain ⟨g2, o2, c2, e2, _, _⟩ := h2.cells (by omega)
  injection e1 with e1 _ e3
  injection e2 with e2 _ e4
  subst e1 e2 e3 e4
  rw [a1] at HI
  clear a1 h1 h2
  generalize gdB m xs m ys = T at *
  go_enter Try.func143, Try.ntmps143
  go_wp2_with (go_at_call 130; refine (HI.out _ _ rfl).mono ?_; rintro e w1 ⟨rfl, hb1⟩; have HGI := Lib.hid (HG.out.kept hb1); clear hb1)
  go_loopw [20] (fun i wr => ∃ k : Nat, k ≤ m ∧ i = .int .i64 (k : Int) ∧ (∀ j, j < k → (gdC xs j && gdC ys j) = true) ∧ Gd w (.slice (some ⟨g1, o1, none⟩) m p1) (.slice (some ⟨g2, o2, none⟩) m p2) m m xs ys wr) (fun i _ => m - (intOf i).toNat)
  case atStart => exact ⟨0, Nat.zero_le _, rfl, fun j hj => absurd hj (by omega), HGI.out⟩
  case round =>
    obtain ⟨k, hk, rfl, hall, hgd⟩ := hrel
    clear HG HGI
    by_cases hlt : k < m
    · have CL : ∀ (v : Value) (zs : List Int) (g o c : Nat) (X : World), RCels X (.slice (some ⟨g, o, none⟩) m c) m zs → X.cell? ⟨g, o + k * 2, none⟩ = some (.int .i64 (zs.getD (k * 2) 0)) ∧ X.cell? ⟨g, o + k * 2 + 1, none⟩ = some (.int .i64 (zs.getD (k * 2 + 1) 0)) := fun v zs g o c X h => by
        obtain ⟨g', o', c', e, _, hc⟩ := h.cells (by omega)
        injection e with e _ e3
        injection e with e
        injection e with e1 e2
        subst e1 e2
        exact ⟨hc (k * 2) (by omega), hc (k * 2 + 1) (by omega)⟩
      have HCL := Lib.hid CL
      have i1 : (k : Int) < (m : Int) := by omega
      have i2 : 0 ≤ (k : Int) := by omega
      have c0 := (CL (.bool true) _ _ _ _ _ hgd.a).1
      have c1 := (CL (.bool true) _ _ _ _ _ hgd.a).2
      have HX : Hid (gdC xs k = cellB (xs.getD (k * 2) 0) (xs.getD (k * 2 + 1) 0)) := Lib.hid rfl
      have HYY : Hid (gdC ys k = cellB (ys.getD (k * 2) 0) (ys.getD (k * 2 + 1) 0)) := Lib.hid rfl
      have HGD := Lib.hid hgd
      have HALL := Lib.hid hall
      clear hgd hall CL
      generalize xs.getD (k * 2) 0 = x0 at *
      generalize xs.getD (k * 2 + 1) 0 = x1 at *
      have HG1 := HGD
      rcases Bool.eq_false_or_eq_true (cellB x0 x1) with b1 | b1
      · have HC1 : Hid (∀ w, Calls Try.prog 122 #[celV x0 x1] w (Ret w (.bool true))) := Lib.hid fun w => b1 ▸ HC.out x0 x1 w
        go_wp2_with fail
        refine (HC1.out _).mono ?_
        rintro e w1 ⟨rfl, hb1⟩
        have hgd := HG1.out.kept hb1
        have d0 := (HCL.out (.bool true) _ _ _ _ _ hgd.b).1
        have d1 := (HCL.out (.bool true) _ _ _ _ _ hgd.b).2
        have HG2 := Lib.hid hgd
        clear hgd hb1 c0 c1
        generalize ys.getD (k * 2) 0 = y0 at *
        generalize ys.getD (k * 2 + 1) 0 = y1 at *
        rcases Bool.eq_false_or_eq_true (cellB y0 y1) with b2 | b2
        · have HC2 : Hid (∀ w, Calls Try.prog 122 #[celV y0 y1] w (Ret w (.bool true))) := Lib.hid fun w => b2 ▸ HC.out y0 y1 w
          have HB : Hid ((gdC xs k && gdC ys k) = true) := Lib.hid (by rw [HX.out, HYY.out, b1, b2]; rfl)
          clear b1 b2
          go_wp2_with fail
          refine (HC2.out _).mono ?_
          rintro e w2 ⟨rfl, hb2⟩
          have HG3 := Lib.hid (HG2.out.kept hb2)
          clear hb2
          go_wp2_with fail
          go_roundw
          case rel => exact ⟨k + 1, by omega, by go_num, fun j hj => by
            rcases Nat.lt_or_ge j k with h | h
            · exact HALL.out j h
            · obtain rfl : j = k := by omega
              exact HB.out, HG3.out⟩
          case measure => first | (simp [intOf]; done) | (simp [intOf]; omega)
        · have HC2 : Hid (∀ w, Calls Try.prog 122 #[celV y0 y1] w (Ret w (.bool false))) := Lib.hid fun w => b2 ▸ HC.out y0 y1 w
          have HT := Lib.hid (HN.out k hlt (by rw [HX.out, HYY.out, b1, b2]; rfl))
          clear b1 b2
          go_wp2_with fail
          refine (HC2.out _).mono ?_
          rintro e w2 ⟨rfl, hb2⟩
          have HG3 := Lib.hid (HG2.out.kept hb2)
          clear hb2
          go_wp2_with fail
          go_ret
          exact ⟨by rw [HT.out]; rfl, HG3.out.below⟩
      · have HC1 : Hid (∀ w, Calls Try.prog 122 #[celV x0 x1] w (Ret w (.bool false))) := Lib.hid fun w => b1 ▸ HC.out x0 x1 w
        have HT := Lib.hid (HN.out k hlt (by rw [HX.out, b1]; rfl))
        clear b1
        go_wp2_with fail
        refine (HC1.out _).mono ?_
        rintro e w1 ⟨rfl, hb1⟩
        have HG2 := Lib.hid (HG1.out.kept hb1)
        clear hb1
        go_wp2_with fail
        go_ret
        exact ⟨by rw [HT.out]; rfl, HG2.out.below⟩
    · obtain rfl : k = m := by omega
      have HT := Lib.hid (HY.out hall)
      have HB := Lib.hid hgd.below
      clear hall hgd
      go_wp2_with fail
      go_ret
      exact ⟨by rw [HT.out]; rfl, HB.out⟩
end Go.Proofs.Ytnlmjeakdjmohaa
