/- Pack 35 of what FnExactAllPairsApart needs: Clone, PaI. -/
import Derived.Test.YtnlmjeakdjmohaaKFnExactAllPairsApart34
import Derived.Lib.BufferWrite
import Derived.Lib.UnsafeStr
/- strings.Clone: the same bytes; nothing that was there has turned. -/
namespace Go.Proofs.Ytnlmjeakdjmohaa
open Go.RowKit
set_option maxHeartbeats 2000000 in
set_option maxRecDepth 100000 in
theorem cloneLite_any (s : ByteArray) (w : World) (h40 : s.size ≤ 1000000) : Calls Try.prog 128 #[.string s] w (Ret w (.string s)) := by
  by_cases h0 : s.size = 0
  · have hs : s = ⟨#[]⟩ := by
      apply ByteArray.ext
      exact Array.eq_empty_of_size_eq_zero h0
    subst hs
    go_enter Try.func128, Try.ntmps128
    go_wp2
    go_ret
    exact ⟨rfl, Below.refl _ _⟩
  · obtain ⟨i0, hi, hz0, hz1, hz2⟩ := info_parts bytInfo
    have hl : s.data.toList.length = s.size := by simp
    have hco : Try.prog.cellsOf 5 = 1 := by kernel_rfl
    obtain ⟨M, hM⟩ : ∃ M, M = madeCells (Value.int .u8 0).cells (((s.size : Nat) : Int).toNat * i0.size) := ⟨_, rfl⟩
    have hMs : M.size = s.size := by rw [hM, size_madeCells, hz1]; simp
    have hmk : ∀ W : World, (Instr.makeSlice 109 (.int .i64 (s.size : Int)) (.int .i64 (s.size : Int))).run Try.prog W = .ok (.slice (some ⟨W.heap.size, 0, none⟩) s.size s.size) (W.alloc (.cells M 5)) := fun W => by
      have h := run_make (P := Try.prog) W 109 5 i0 (.int .u8 0) Try.underlying109 hi hz0 .i64 .i64 (s.size : Int) (s.size : Int) (by omega) (by omega) (by rw [hz2]; omega) (by omega)
      rw [← hM] at h
      simpa using h
    clear hM
    have hinfo : (Try.prog.info? 5).map (·.size) = some 1 := by kernel_rfl
    have hcp := Lib.run_copy_row_string (P := Try.prog) (w.alloc (.cells M 5)) 109 9 3 5 w.heap.size 0 s.size s.size s M 5 Try.underlying109 hinfo (heap_alloc_new w _) (Nat.le_refl _) (by omega)
    obtain ⟨Y, hY⟩ : ∃ Y, Y = (M.toList.take 0 ++ Lib.byteCells s.data.toList ++ M.toList.drop (0 + s.size)).toArray := ⟨_, rfl⟩
    rw [← hY] at hcp
    have hYl : Y.toList = Lib.byteCells s.data.toList := by
      rw [hY, List.toList_toArray, List.take_zero, List.nil_append, List.drop_of_length_le (by rw [Array.length_toList]; omega), List.append_nil]
    have hYs : Y.size = s.size := by rw [← Array.length_toList, hYl, Lib.byteCells_length, hl]
    have hgY : ((w.alloc (.cells M 5)).setRow w.heap.size Y).heap[w.heap.size]? = some (.cells Y 5 (0, 0)) := setRow_heap _ _ M _ 5 (0, 0) (heap_alloc_new w _)
    have hne : s.data.toList ≠ [] := fun e => h0 (by rw [← hl, e]; rfl)
    have hUS := Lib.run_unsafeString_row (P := Try.prog) ((w.alloc (.cells M 5)).setRow w.heap.size Y) 129 3 9 5 Try.underlying129 hco w.heap.size Y.size (by unfold World.shape?; rw [hgY]) s.data.toList hne (by omega) (by omega)
      (fun j x hx => Lib.cells_of_row hgY Y.size j _ (by rw [List.take_of_length_le (by rw [Array.length_toList]; exact Nat.le_refl _), hYl]; simp [Lib.byteCells, hx]))
    rw [hl] at hUS
    clear hY
    go_enter Try.func128, Try.ntmps128
    go_wp2
    go_ret
    have hb1 : Below w.heap.size w (w.alloc (.cells M 5)) := (Below.refl _ w).alloc (Nat.le_refl _) _
    have hb2 : Below w.heap.size (w.alloc (.cells M 5)) ((w.alloc (.cells M 5)).setRow w.heap.size Y) := ⟨rfl, rfl, rfl, by simp, fun k hk => setRow_other _ _ _ _ (by omega)⟩
    exact ⟨rfl, Lib.below_freeze (hb1.trans hb2) (p := ⟨w.heap.size, 0, none⟩) (Nat.le_refl _) _⟩
theorem clone_any (s : ByteArray) (w : World) (h40 : s.size ≤ 1000000) : Calls Try.prog 84 #[.string s] w (Ret w (.string s)) := by
  go_enter Try.func84, Try.ntmps84
  go_wp2_with (go_at_call 128; refine (cloneLite_any s _ h40).mono ?_; rintro e w1 ⟨rfl, hb⟩)
  go_ret
  exact ⟨rfl, hb⟩
end Go.Proofs.Ytnlmjeakdjmohaa

/- AllPairsApart of the program. -/
namespace Go.Proofs.Ytnlmjeakdjmohaa
open Go.RowKit
set_option linter.unusedVariables false
theorem pa_next {A B : List Wy} {k : Nat} (hk : k < A.length) {x y : Int} {s : ByteArray} (hw : wg A k = (x, y, s)) :
    (paL (A.take k) B).take 201 ++ ((paF B (x, y, s)).take (201 - ((paL (A.take k) B).take 201).length)).map (fun w => [(x, y, s), w]) = (paL (A.take (k + 1)) B).take 201 := by
  rw [paL_take A B hk, take_two, hw]
  unfold paR
  rw [List.map_take]
theorem pa_take {W : List Wy} {j : Nat} (hj : j < W.length) {V z : Wy} (hw : wg W j = z) : (W.take (j + 1)).map (fun w => [V, w]) = (W.take j).map (fun w => [V, w]) ++ [[V, z]] := by
  have e : wg W j = W[j] := by unfold wg; rw [List.getD_eq_getElem?_getD, List.getElem?_eq_getElem hj]; rfl
  rw [List.take_add_one, List.getElem?_eq_getElem hj, List.map_append, ← hw, e]
  rfl
theorem pkS {y2 : World} {o : Value} {P : List (List Wy)} {lo hi : Nat} {x y : Int} {s : ByteArray} {vW : Value} {WL : List Wy} {b : Nat} {u v : Int} {t : ByteArray} {X : World} (h : PaK y2 o P lo hi x y s vW WL X) (hw : WB b u v t X) :
    X.cell? ⟨lo, 0, none⟩ = some (.int .i64 x) ∧ X.cell? ⟨lo, 1, none⟩ = some (.int .i64 y) ∧ X.cell? ⟨lo, 2, none⟩ = some (.string s) ∧ X.cell? ⟨b, 0, none⟩ = some (.int .i64 u) ∧ X.cell? ⟨b, 1, none⟩ = some (.int .i64 v) ∧ X.cell? ⟨b, 2, none⟩ = some (.string t) := ⟨h.v.c0, h.v.c1, h.v.c2, hw.c0, hw.c1, hw.c2⟩
set_option maxRecDepth 100000 in
set_option maxHeartbeats 8000000 in
theorem allPairsApartI_ret (a0 a1 b0 b1 c0 c1 d0 d1 : Int) (w : World) : Calls Try.prog 32 #[celV a0 a1, celV b0 b1, celV c0 c1, celV d0 d1] w (WtsRet w (apaOk a0 a1 b0 b1 c0 c1 d0 d1) (apaV a0 a1 b0 b1 c0 c1 d0 d1)) := by
  have HX := Lib.hid (Q4B.new w a0 a1 b0 b1 c0 c1 d0 d1 39)
  have HA1 : Hid (∀ w, Calls Try.prog 83 #[celV a0 a1, celV c0 c1] w (WsRet w (awOk a0 a1 c0 c1) (awV a0 a1 c0 c1))) := Lib.hid fun w => allWaysI_ret a0 a1 c0 c1 w
  have HA2 : Hid (∀ w, Calls Try.prog 83 #[celV b0 b1, celV d0 d1] w (WsRet w (awOk b0 b1 d0 d1) (awV b0 b1 d0 d1))) := Lib.hid fun w => allWaysI_ret b0 b1 d0 d1 w
  have ra0 := HX.out.a.c0
  have ra1 := HX.out.a.c1
  have rc0 := HX.out.c.c0
  have rc1 := HX.out.c.c1
  rcases Bool.eq_false_or_eq_true (awOk a0 a1 c0 c1) with k1 | k1
  case inr =>
    have hok : apaOk a0 a1 b0 b1 c0 c1 d0 d1 = false := by unfold apaOk; rw [k1]; simp
    have hv : apaV a0 a1 b0 b1 c0 c1 d0 d1 = [] := by unfold apaV; rw [hok]; rfl
    rw [hok, hv]
    clear hok hv
    rw [k1] at HA1
    clear k1
    generalize awV a0 a1 c0 c1 = V1 at *
    generalize awV b0 b1 d0 d1 = V2 at *
    generalize awOk b0 b1 d0 d1 = ok2 at *
    go_enter Try.func32, Try.ntmps32
    go_wp2_with fail
    refine (HA1.out _).mono ?_
    rintro e y1 ⟨v1, rfl, hw1, hb1⟩
    have HX1 := Lib.hid (HX.out.below hb1)
    have HR1 := Lib.hid hw1
    clear ra0 ra1 rc0 rc1 hb1
    obtain ⟨A1, q1, rfl⟩ := hw1.shape
    clear hw1
    have rb0 := HX1.out.b.c0
    have rb1 := HX1.out.b.c1
    have rd0 := HX1.out.d.c0
    have rd1 := HX1.out.d.c1
    go_wp2_with fail
    refine (HA2.out _).mono ?_
    rintro e y2 ⟨v2, rfl, hw2, hb2⟩
    have HX2 := Lib.hid (HX1.out.below hb2)
    have HR1 := Lib.hid (HR1.out.below hb2)
    clear rb0 rb1 rd0 rd1 hb2
    obtain ⟨A2, q2, rfl⟩ := hw2.shape
    clear hw2
    go_wp2_with fail
    go_ret2
    exact ⟨.slice none 0 0, [], rfl, URow.nil (Nat.le_refl _), HX2.out.bl⟩
  rcases Bool.eq_false_or_eq_true (awOk b0 b1 d0 d1) with k2 | k2
  case inr =>
    have hok : apaOk a0 a1 b0 b1 c0 c1 d0 d1 = false := by unfold apaOk; rw [k1, k2]; simp
    have hv : apaV a0 a1 b0 b1 c0 c1 d0 d1 = [] := by unfold apaV; rw [hok]; rfl
    rw [hok, hv]
    clear hok hv
    rw [k1] at HA1
    rw [k2] at HA2
    clear k1 k2
    generalize awV a0 a1 c0 c1 = V1 at *
    generalize awV b0 b1 d0 d1 = V2 at *
    go_enter Try.func32, Try.ntmps32
    go_wp2_with fail
    refine (HA1.out _).mono ?_
    rintro e y1 ⟨v1, rfl, hw1, hb1⟩
    have HX1 := Lib.hid (HX.out.below hb1)
    have HR1 := Lib.hid hw1
    clear ra0 ra1 rc0 rc1 hb1
    obtain ⟨A1, q1, rfl⟩ := hw1.shape
    clear hw1
    have rb0 := HX1.out.b.c0
    have rb1 := HX1.out.b.c1
    have rd0 := HX1.out.d.c0
    have rd1 := HX1.out.d.c1
    go_wp2_with fail
    refine (HA2.out _).mono ?_
    rintro e y2 ⟨v2, rfl, hw2, hb2⟩
    have HX2 := Lib.hid (HX1.out.below hb2)
    have HR1 := Lib.hid (HR1.out.below hb2)
    clear rb0 rb1 rd0 rd1 hb2
    obtain ⟨A2, q2, rfl⟩ := hw2.shape
    clear hw2
    go_wp2_with fail
    go_ret2
    exact ⟨.slice none 0 0, [], rfl, URow.nil (Nat.le_refl _), HX2.out.bl⟩
  have hv1 : awV a0 a1 c0 c1 = awL a0 a1 c0 c1 := by unfold awV; rw [if_pos k1]
  have hv2 : awV b0 b1 d0 d1 = awL b0 b1 d0 d1 := by unfold awV; rw [if_pos k2]
  have hok : apaOk a0 a1 b0 b1 c0 c1 d0 d1 = decide ((paL (awL a0 a1 c0 c1) (awL b0 b1 d0 d1)).length ≤ 200) := by
    unfold apaOk apaL
    rw [k1, k2]
    rfl
  have HOK := Lib.hid hok
  have HV : Hid (apaOk a0 a1 b0 b1 c0 c1 d0 d1 = true → apaV a0 a1 b0 b1 c0 c1 d0 d1 = paL (awL a0 a1 c0 c1) (awL b0 b1 d0 d1)) := Lib.hid fun h => by unfold apaV; rw [if_pos h]; rfl
  have HV0 : Hid (apaOk a0 a1 b0 b1 c0 c1 d0 d1 = false → apaV a0 a1 b0 b1 c0 c1 d0 d1 = []) := Lib.hid fun h => by unfold apaV; rw [h]; rfl
  have hcl : (cellB a0 a1 = true ∧ cellB c0 c1 = true) ∧ (cellB b0 b1 = true ∧ cellB d0 d1 = true) := by
    unfold awOk at k1 k2
    rw [Bool.and_eq_true, Bool.and_eq_true] at k1 k2
    exact ⟨k1.1, k2.1⟩
  have hll : (awL a0 a1 c0 c1).length ≤ 200 := by
    unfold awOk awB at k1
    rw [Bool.and_eq_true, decide_eq_true_eq] at k1
    have e1 := tx_len hcl.1.1 hcl.1.2
    unfold awL txM
    rw [List.length_map, List.length_map]
    have := k1.2
    omega
  have HW1 : Hid (∀ k, k < (awL a0 a1 c0 c1).length → wayB (wg (awL a0 a1 c0 c1) k).1 (wg (awL a0 a1 c0 c1) k).2.1 (wg (awL a0 a1 c0 c1) k).2.2 = true) := Lib.hid fun k hk => aw_way hcl.1.1 hcl.1.2 hk
  have HWP : Hid (∀ (x y : Int) (s : ByteArray), wayB x y s = true → ∀ most : Nat, most ≤ 1000 → ∀ (W : World) (tv : Value), RPls W tv (s.size + 1) (clF s x y s.size) → Calls Try.prog 75 #[celV b0 b1, celV d0 d1, tv, .int .i64 (most : Int)] W (WNew W ((paF (awL b0 b1 d0 d1) (x, y, s)).take most))) := Lib.hid fun x y s hs most hm W tv hr => by
    have h := waysPast_any b0 b1 d0 d1 tv (s.size + 1) (clF s x y s.size) most W hcl.2.1 hcl.2.2 (by omega) (by have := aw_size hs; omega) hr
    rwa [wp_pa (V := (x, y, s)) hs hcl.2.1 hcl.2.2 most] at h
  rw [k1, hv1] at HA1
  rw [k2, hv2] at HA2
  clear k1 k2 hv1 hv2 hok hcl
  generalize apaOk a0 a1 b0 b1 c0 c1 d0 d1 = OK at *
  generalize apaV a0 a1 b0 b1 c0 c1 d0 d1 = VV at *
  generalize awL a0 a1 c0 c1 = T1 at *
  generalize awL b0 b1 d0 d1 = T2 at *
  go_enter Try.func32, Try.ntmps32
  go_wp2_with fail
  refine (HA1.out _).mono ?_
  rintro e y1 ⟨v1, rfl, hw1, hb1⟩
  have HX1 := Lib.hid (HX.out.below hb1)
  have HR1 := Lib.hid hw1
  clear ra0 ra1 rc0 rc1 hb1
  obtain ⟨A1, q1, rfl⟩ := hw1.shape
  clear hw1
  have rb0 := HX1.out.b.c0
  have rb1 := HX1.out.b.c1
  have rd0 := HX1.out.d.c0
  have rd1 := HX1.out.d.c1
  go_wp2_with fail
  refine (HA2.out _).mono ?_
  rintro e y2 ⟨v2, rfl, hw2, hb2⟩
  have HX2 := Lib.hid (HX1.out.below hb2)
  have HR1 := Lib.hid (HR1.out.below hb2)
  clear rb0 rb1 rd0 rd1 hb2
  obtain ⟨A2, q2, rfl⟩ := hw2.shape
  clear hw2
  obtain ⟨n1, hn1⟩ : ∃ n1, T1.length = n1 := ⟨_, rfl⟩
  have HN1 := Lib.hid hn1
  rw [hn1] at HR1 hll HW1 ⊢
  have HFL : Hid (200 < (paL T1 T2).length → OK = false ∧ VV = []) := Lib.hid fun h => by
    have h1 : OK = false := by rw [HOK.out, decide_eq_false (by omega)]
    exact ⟨h1, HV0.out h1⟩
  have HTR : Hid ((paL T1 T2).length ≤ 200 → OK = true ∧ VV = paL T1 T2) := Lib.hid fun h => by
    have h1 : OK = true := by rw [HOK.out, decide_eq_true h]
    exact ⟨h1, HV.out h1⟩
  clear hn1 HOK HV HV0
  go_wp2_with fail
  go_loopw [14, 41] (fun o i wr => ∃ k : Nat, k ≤ n1 ∧ i = .int .i64 (k : Int) ∧ PaO y2 o ((paL (T1.take k) T2).take 201) wr) (fun _ i _ => n1 - (intOf i).toNat)
  case atStart => exact ⟨0, Nat.zero_le _, rfl, by rw [paL_zero]; exact PaO.start y2⟩
  case round =>
    obtain ⟨k, hk, rfl, hpo⟩ := hrel
    obtain ⟨Ao, co, rfl⟩ := hpo.shape
    have hpl : ((paL (T1.take k) T2).take 201).length ≤ 201 := by rw [List.length_take]; omega
    by_cases hlt : k < n1
    · obtain ⟨w0, rfl⟩ : ∃ w0 : World, w0 = wr := ⟨_, rfl⟩
      obtain ⟨g1, cc1, hv, -, -⟩ := HR1.out.form HN1.out (by omega)
      injection hv with hA _ hcc
      subst hA
      subst hcc
      have hc := (HR1.out.below hpo.bl).cell (j := k) (by rw [HN1.out]; exact hlt)
      obtain ⟨x, y, s, hw⟩ : ∃ x y s, wg T1 k = (x, y, s) := ⟨_, _, _, rfl⟩
      have hway0 := HW1.out k hlt
      rw [hw] at hc hway0
      have hway : wayB x y s = true := hway0
      obtain ⟨e0, e1, e2⟩ := hc
      have hsz : s.size ≤ 24 := aw_size hway
      have hal : Below w0.heap.size w0 (w0.alloc (.cells #[.int .i64 x, .int .i64 y, .string s] 56)) := (Below.refl _ _).alloc (Nat.le_refl _) _
      have HO1 := Lib.hid (hpo.below hal)
      have HV1 := Lib.hid (WB.new w0 x y s 56)
      have HNE : Hid (∀ q, (Value.slice Ao ((paL (T1.take k) T2).take 201).length co).ownBlock = some q → q < w0.heap.size) := Lib.hid fun q hq => (hpo.blk q hq).2
      have HNX := Lib.hid (pa_next (A := T1) (B := T2) (k := k) (by rw [HN1.out]; exact hlt) hw)
      have HPS : Hid (∀ X, Calls Try.prog 76 #[wayV x y s] X (PsRet X true (s.size + 1) (clF s x y s.size))) := Lib.hid fun X => by
        have := placesOf_any x y s X (by unfold maxLen; omega)
        unfold ncN ncX at this
        rwa [if_pos hway, if_pos hway, hway] at this
      have HWQ := Lib.hid (HWP.out x y s hway)
      have i1 : (k : Int) < (n1 : Int) := by omega
      have t0 := HV1.out.c0
      have t1 := HV1.out.c1
      have t2 := HV1.out.c2
      clear hpo hw hway hway0 hal
      generalize (paL (T1.take k) T2).take 201 = PK at *
      obtain ⟨pl, hpl2⟩ : ∃ pl, pl = PK.length := ⟨_, rfl⟩
      rw [← hpl2] at HO1 HNE HNX hpl ⊢
      have HPL := Lib.hid hpl2
      clear hpl2
      go_wp2_with fail
      refine (HPS.out _).mono ?_
      rintro e w3 ⟨v5, rfl, hp5, hb5⟩
      obtain ⟨A5, c5, rfl⟩ := hp5.shape
      have HP5 := Lib.hid hp5
      have HO3 := Lib.hid (HO1.out.below hb5)
      have HV3 := Lib.hid (HV1.out.below hb5)
      have hx3 := HX2.out.belowB HO3.out.bl (by have := HX2.out.d.lt; omega)
      have rb0 := hx3.b.c0
      have rb1 := hx3.b.c1
      have rd0 := hx3.d.c0
      have rd1 := hx3.d.c1
      clear hp5 hb5 hx3 t0 t1 t2 e0 e1 e2
      have HWR : Hid (Calls Try.prog 75 #[celV b0 b1, celV d0 d1, .slice A5 (s.size + 1) c5, .int .i64 (201 - (pl : Int))] w3 (WNew w3 ((paF T2 (x, y, s)).take (201 - pl)))) := Lib.hid (by
        have := HWQ.out (201 - pl) (by omega) w3 _ (RPls.of_row HP5.out)
        rwa [show ((201 - pl : Nat) : Int) = 201 - (pl : Int) by omega] at this)
      go_wp2_with fail
      refine (HWR.out).mono ?_
      rintro e w4 ⟨vW, rfl, hw4, hb4⟩
      obtain ⟨AW, cW, rfl⟩ := hw4.shape
      have HK4 : Hid (PaK y2 (.slice Ao pl co) (PK ++ (((paF T2 (x, y, s)).take (201 - pl)).take 0).map fun w => [(x, y, s), w]) w0.heap.size w4.heap.size x y s (.slice AW ((paF T2 (x, y, s)).take (201 - pl)).length cW) ((paF T2 (x, y, s)).take (201 - pl)) w4) := Lib.hid (by
        rw [List.take_zero, List.map_nil, List.append_nil]
        have hlt3 := HV3.out.lt
        exact ⟨HO3.out.below hb4, HV3.out.below hb4, hw4.mono (by omega), fun q hq => .inl (HNE.out q hq), by have := hb4.size; omega, fun q hq => (hw4.blk q hq).2, Nat.le_refl _⟩)
      have HIJ : Hid (w0.heap.size < w4.heap.size) := Lib.hid HK4.out.lh
      clear hw4 hb4 rb0 rb1 rd0 rd1 HWR HWQ HPS HO1 HO3 HV1 HV3 HP5 HNE
      have hwl : ((paF T2 (x, y, s)).take (201 - pl)).length ≤ 201 := by rw [List.length_take]; omega
      generalize (paF T2 (x, y, s)).take (201 - pl) = WL at *
      obtain ⟨wn, hwn⟩ : ∃ wn, WL.length = wn := ⟨_, rfl⟩
      have HWN := Lib.hid hwn
      rw [hwn] at HK4 hwl ⊢
      clear hwn
      have HCL := Lib.hid (fun W => clone_any s W (by omega))
      go_wp2_with fail
      go_loopw [14, 58] (fun o i wq => ∃ j : Nat, j ≤ wn ∧ i = .int .i64 (j : Int) ∧ PaK y2 o (PK ++ (WL.take j).map fun w => [(x, y, s), w]) w0.heap.size w4.heap.size x y s (.slice AW wn cW) WL wq) (fun _ i _ => wn - (intOf i).toNat)
      case atStart => exact ⟨0, Nat.zero_le _, rfl, HK4.out⟩
      case round =>
        obtain ⟨j, hj, rfl, hpk⟩ := hrel
        obtain ⟨Aj, cj, rfl⟩ := hpk.l.shape
        clear HK4
        by_cases hltj : j < wn
        · obtain ⟨g2, cc2, hv, -, -⟩ := hpk.r.form HWN.out (by omega)
          injection hv with hA _ hcc
          subst hA
          subst hcc
          have hc := hpk.r.cell (j := j) (by rw [HWN.out]; exact hltj)
          obtain ⟨u, v, t, hw⟩ : ∃ u v t, wg WL j = (u, v, t) := ⟨_, _, _, rfl⟩
          rw [hw] at hc
          obtain ⟨f0, f1, f2⟩ := hc
          have HTK := Lib.hid (pa_take (W := WL) (j := j) (by rw [HWN.out]; exact hltj) (V := (x, y, s)) hw)
          have hal : Below wr.heap.size wr (wr.alloc (.cells #[.int .i64 u, .int .i64 v, .string t] 56)) := (Below.refl _ _).alloc (Nat.le_refl _) _
          have HK0 := Lib.hid ((hpk.below hal).below (Below.refl _ _).drew)
          have HB0 := Lib.hid ((WB.new wr u v t 56).below (Below.refl _ _).drew)
          have HBN : Hid (∀ q, (Value.slice Aj (PK ++ (WL.take j).map fun w => [(x, y, s), w]).length cj).ownBlock = some q → q ≠ wr.heap.size) := Lib.hid fun q hq e => by have := (hpk.l.blk q hq).2; omega
          have j1 : (j : Int) < (wn : Int) := by omega
          clear hpk hw hal
          have hpj : ((WL.take j).map (fun w => [(x, y, s), w])).length ≤ 201 := by rw [List.length_map, List.length_take]; omega
          generalize (WL.take j).map (fun w => [(x, y, s), w]) = PJ at *
          obtain ⟨ql, hql⟩ : ∃ ql, ql = (PK ++ PJ).length := ⟨_, rfl⟩
          rw [← hql] at HK0 HBN ⊢
          have HQL := Lib.hid hql
          have hqb : ql ≤ 1000000 := by rw [hql, List.length_append, ← HPL.out]; omega
          clear hql
          go_wp2_with fail
          go_region_held3 (fun X => X.cell? ⟨w0.heap.size, 0, none⟩ = some (.int .i64 x) ∧ X.cell? ⟨w0.heap.size, 1, none⟩ = some (.int .i64 y) ∧ X.cell? ⟨w0.heap.size, 2, none⟩ = some (.string s) ∧ X.cell? ⟨wr.heap.size, 0, none⟩ = some (.int .i64 u) ∧ X.cell? ⟨wr.heap.size, 1, none⟩ = some (.int .i64 v) ∧ X.cell? ⟨wr.heap.size, 2, none⟩ = some (.string t)) (first | exact pkS HK0.out HB0.out | assumption | exact pkS HK5.out HB5.out | exact pkS (HK5.out.below ((Below.refl _ _).alloc (Nat.le_refl _) _)) (HB5.out.below ((Below.refl _ _).alloc (Nat.le_refl _) _)) | exact pkS ((HK5.out.below ((Below.refl _ _).alloc (Nat.le_refl _) _)).below ((Below.refl _ _).alloc (Nat.le_refl _) _)) ((HB5.out.below ((Below.refl _ _).alloc (Nat.le_refl _) _)).below ((Below.refl _ _).alloc (Nat.le_refl _) _)) | exact pkS HK6.out HB6.out) (first | (go_at_call 84; refine (HCL.out _).mono ?_; rintro en w5 ⟨rfl, hb5⟩; have HK5 := Lib.hid (HK0.out.below hb5); have HB5 := Lib.hid (HB0.out.below hb5); obtain ⟨M, vs, hu, hM⟩ := HK5.out.l.ex; have HU := Lib.hid hu; have HHM := Lib.hid hM; have hvl : vs.length ≤ 2000000 := (by rw [HU.out.len, ← HQL.out]; omega); have hsz5 := HK5.out.l.bl.size; clear hu hM hb5) | (refine step_pushX (.tmp 62) (.tmp 71) rfl rfl y2.heap.size _ vs (by rfl) ((HU.out.out.alloc _).alloc _) (w5.heap.size + 1) (.slice (some ⟨w5.heap.size, 0, none⟩) 2 2) (by rfl) (by simp [go_sem]) rfl hvl (by simp; omega) ?_; intro v3 w6 hr3 hg3 hat3; have hpp := HK5.out.push HU.out HHM.out hr3 hg3 hat3; have HK6 := Lib.hid hpp.1; have HB6 := Lib.hid (HB5.out.grown hpp.2 HBN.out); clear hpp hr3 hg3 hat3))
          go_wp2_with fail
          go_roundw
          case rel => exact ⟨j + 1, by omega, by go_num, by rw [HTK.out, ← List.append_assoc]; exact HK6.out⟩
          case measure => first | (simp [intOf]; done) | (simp [intOf]; omega)
        · have HK : Hid (j = wn) := by unfold Hid; omega
          have HTT : Hid (WL.take j = WL) := Lib.hid (by rw [HK.out, ← HWN.out, List.take_length])
          have HJ := Lib.hid hpk
          have hjb : decide ((j : Int) < (wn : Int)) = false := decide_eq_false (by omega)
          clear hpk
          obtain ⟨ql, hql⟩ : ∃ ql, ql = (PK ++ (WL.take j).map fun w => [(x, y, s), w]).length := ⟨_, rfl⟩
          rw [← hql] at HJ ⊢
          clear hql
          go_wp2_with fail
          go_roundw
          case rel => exact ⟨k + 1, by omega, by go_num, by rw [← HNX.out, ← HTT.out]; exact HJ.out.l⟩
          case measure => first | (simp [intOf]; done) | (simp [intOf]; omega)
    · have HK : Hid (k = n1) := by unfold Hid; omega
      have HTT : Hid (T1.take k = T1) := Lib.hid (by rw [HK.out, ← HN1.out, List.take_length])
      have HP := Lib.hid hpo
      have hjb : decide ((k : Int) < (n1 : Int)) = false := decide_eq_false (by omega)
      have hlt2 : ((paL (T1.take k) T2).take 201).length = min 201 (paL T1 T2).length := by rw [List.length_take, HTT.out]
      clear hpo
      obtain ⟨ql, hql⟩ : ∃ ql, ql = ((paL (T1.take k) T2).take 201).length := ⟨_, rfl⟩
      rw [← hql] at HP hlt2 hpl ⊢
      have HQL := Lib.hid hql
      have HLT := Lib.hid hlt2
      clear hql hlt2
      go_wp2_with fail
      · obtain ⟨eo, ev⟩ := HFL.out (by have := HLT.out; omega)
        go_ret2
        exact ⟨.slice none 0 0, [], by rw [eo]; rfl, by rw [ev]; exact URow.nil (Nat.le_refl _), HX2.out.bl.trans (HP.out.bl.mono HX2.out.bl.size)⟩
      · obtain ⟨eo, ev⟩ := HTR.out (by have := HLT.out; omega)
        have HFU : Hid ((paL (T1.take k) T2).take 201 = paL T1 T2) := Lib.hid (by rw [HTT.out, List.take_of_length_le (by have := HLT.out; omega)])
        go_ret2
        obtain ⟨M, vs, hu, hM⟩ := HP.out.ex
        exact ⟨_, vs, by rw [eo]; rfl, by rw [ev, ← HFU.out]; exact hu.mono HX2.out.bl.size hu.size (Nat.le_refl _), HX2.out.bl.trans (HP.out.bl.mono HX2.out.bl.size)⟩
end Go.Proofs.Ytnlmjeakdjmohaa
