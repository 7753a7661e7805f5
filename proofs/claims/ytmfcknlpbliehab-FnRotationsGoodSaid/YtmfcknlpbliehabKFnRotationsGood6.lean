/- Pack 6 of what FnRotationsGood needs: Rot, GoodRot. -/
import Derived.Test.YtmfcknlpbliehabKFnRotationsGood5
import Derived.Deep.RegionLaw
import Derived.Deep.AppendLies
/- l1Own, cyRotate, RotateList, GoodRotations. -/
namespace Go.Proofs.Ytmfcknlpbliehab
open Go.RowKit
set_option linter.unusedVariables false
theorem IRow.empty (w : World) : IRow (w.alloc (.cells #[] 3)) w.heap.size (.slice (some ⟨w.heap.size, 0, none⟩) 0 0) [] :=
  IRow.of_own (World.ownsRow_lit w #[] 0 (Nat.le_refl _) (by simp [maxLen]) rfl) rfl rfl
theorem grown_left {w w' : World} {o : Obj} {row : Option Nat} (h : (w.alloc o).grownBy w' row) : w.grownBy w' row := grown_alloc_left h
set_option maxRecDepth 100000 in
/-- append of what another slice holds to a slice of the call's own -/
theorem wpList_extend {ops : Array Oper} {rest : List Oper} {o : Oper} {a : Act} {Q : Exit → Act → World → Prop} {w : World} (s x : Operand) (hgd : o.guard = none)
    (ho : o.op = .call { callee := .builtin .append, args := #[s, x], argTypes := #[24, 24] })
    (B : Nat) (v : Value) (xs ys : List Int) (hs : a.eval s = v) (hown : IRow w B v xs) (g p c : Nat) (hx : a.eval x = .slice (some ⟨g, p, none⟩) ys.length c)
    (hcells : ∀ j, j < ys.length → w.cell? ⟨g, p + j, none⟩ = some (.int .i64 (ys.getD j 0))) (hlen : xs.length + ys.length ≤ 1099511627776) (hB : B ≤ w.heap.size)
    (h : ∀ v' w', IRow w' B v' (xs ++ ys) → w.grownBy w' v.ownBlock → wpList Try.prog ops Q rest (a.put o.dst v') w') :
    wpList Try.prog ops Q (o :: rest) a w := by
  obtain ⟨i0, hi, hz0, hz1, hz2⟩ := info_parts intInfo
  refine wpList_append_own_at _ hgd s x 24 ho B 3 i0 (.int .i64 0) 1 8 Try.underlying24 hi hz0 hz1 hz2 rfl (by decide) v xs.length (xs.map (Value.int .i64)) hs hown
    ⟨g, p, none⟩ ys.length c (ys.map (Value.int .i64)) hx (by simp) ?_ ?_ ?_ ?_ hB ?_
  · intro j y hj
    rw [List.getElem?_map] at hj
    rcases Nat.lt_or_ge j ys.length with hlt | hge
    · have e := hcells j hlt
      rw [List.getD_eq_getElem?_getD] at e
      rw [List.getElem?_eq_getElem hlt] at hj e
      injection hj with hj
      subst hj
      have e2 : (⟨g, p, none⟩ : Addr).add j = ⟨g, p + j, none⟩ := by unfold Addr.add; split <;> simp_all
      rw [e2]
      exact e
    · rw [List.getElem?_eq_none hge] at hj
      cases hj
  · intro y hy
    rw [List.mem_map] at hy
    obtain ⟨n, _, rfl⟩ := hy
    rfl
  · unfold maxLen; omega
  · omega
  · intro v' w' h1 h2 _ h4
    refine h v' w' ?_ h2
    unfold IRow
    rw [List.length_append, List.map_append]
    exact h1
set_option maxHeartbeats 800000 in
theorem l1Own_any (g o c : Nat) (ys : List Int) (w : World) (hg : g < w.heap.size) (hcells : ∀ j, j < ys.length → w.cell? ⟨g, o + j, none⟩ = some (.int .i64 (ys.getD j 0))) (hl : ys.length ≤ 1048576) :
    Calls Try.prog 60 #[.slice (some ⟨g, o, none⟩) ys.length c] w (IntsNew w ys) := by
  have HC : Hid (∀ w1, Below w.heap.size w w1 → ∀ j, j < ys.length → w1.cell? ⟨g, o + j, none⟩ = some (.int .i64 (ys.getD j 0))) := Lib.hid fun w1 hb j hj => (hb.cell (p := ⟨g, o + j, none⟩) hg).trans (hcells j hj)
  clear hcells
  go_enter Try.func60, Try.ntmps60
  have hb0 := (Below.refl w.heap.size w).alloc (Nat.le_refl _) (.cells #[] 3)
  go_wp2_with (at_builtin; refine wpList_extend (.tmp 3) (.tmp 4) rfl rfl w.heap.size _ [] ys rfl (IRow.empty w) g o c rfl (HC.out _ hb0) (by simp; omega) (by simp) ?_; intro v' w' hrow' hg')
  go_ret
  exact ⟨_, rfl, hrow', hb0.grown hg' (by simp) (fun q hq => by have hq' : some w.heap.size = some q := hq; injection hq' with e; omega)⟩
set_option maxRecDepth 100000 in
/-- the same at a step of a region that draws its order -/
theorem step_extend {ops : Array Oper} {o : Oper} {a : Act} {K : Act → World → Prop} {Q : Exit → Act → World → Prop} {E : Prop} {w : World} (s x : Operand) (hgd : o.guard = none)
    (ho : o.op = .call { callee := .builtin .append, args := #[s, x], argTypes := #[24, 24] })
    (B : Nat) (v : Value) (xs ys : List Int) (hs : a.eval s = v) (hown : IRow w B v xs) (g p c m : Nat) (hm : ys.length = m) (hx : a.eval x = .slice (some ⟨g, p, none⟩) m c)
    (hcells : ∀ j, j < ys.length → w.cell? ⟨g, p + j, none⟩ = some (.int .i64 (ys.getD j 0))) (hlen : xs.length + ys.length ≤ 1099511627776) (hB : B ≤ w.heap.size)
    (h : ∀ v' w', IRow w' B v' (xs ++ ys) → w.grownBy w' v.ownBlock → K (a.put o.dst v') w') :
    if Region.wanted o (yielded ops a.tmps) = true then Oper.wp Try.prog o a w K Q else E := by
  subst hm
  obtain ⟨i0, hi, hz0, hz1, hz2⟩ := info_parts intInfo
  have hw : Region.wanted o (yielded ops a.tmps) = true := by simp [Region.wanted, hgd]
  rw [if_pos hw]
  obtain ⟨v', w', hr, h2, h3, h4, h5⟩ := run_append_own_at (P := Try.prog) w B 24 o.type 3 i0 (.int .i64 0) 1 8 Try.underlying24 hi hz0 hz1 hz2 rfl (by decide) v xs.length (xs.map (Value.int .i64)) hown
    ⟨g, p, none⟩ ys.length c (ys.map (Value.int .i64)) (by simp) (by
      intro j y hj
      rw [List.getElem?_map] at hj
      rcases Nat.lt_or_ge j ys.length with hlt | hge
      · have e := hcells j hlt
        rw [List.getD_eq_getElem?_getD] at e
        rw [List.getElem?_eq_getElem hlt] at hj e
        injection hj with hj
        subst hj
        have e2 : (⟨g, p, none⟩ : Addr).add j = ⟨g, p + j, none⟩ := by unfold Addr.add; split <;> simp_all
        rw [e2]
        exact e
      · rw [List.getElem?_eq_none hge] at hj
        cases hj) (by
      intro y hy
      rw [List.mem_map] at hy
      obtain ⟨n, _, rfl⟩ := hy
      rfl) (by unfold maxLen; omega) (by omega) hB
  unfold Oper.wp execOp
  simp only [ho, resolve, invoke, builtin, Sem.run_bind, Sem.run_pure, Result.andThen_ok, List.map_toArray, List.map_cons, List.map_nil, hs, hx, hr]
  refine h v' w' ?_ h3
  unfold IRow
  rw [List.length_append, List.map_append]
  exact h2
set_option maxHeartbeats 800000 in
theorem cyRotate_any (g o c k : Nat) (xs : List Int) (w : World) (hg : g < w.heap.size) (hcells : ∀ j, j < xs.length → w.cell? ⟨g, o + j, none⟩ = some (.int .i64 (xs.getD j 0))) (hl : xs.length ≤ 1048576) (hc : xs.length ≤ c) (hm : c ≤ maxLen) (hk : k < xs.length) :
    Calls Try.prog 35 #[.slice (some ⟨g, o, none⟩) xs.length c, .int .i64 k] w (IntsNew w (rot xs k)) := by
  have HL : Hid (∀ w1 A m, m = xs.length - k → Below w.heap.size w w1 → Calls Try.prog 60 #[.slice (some ⟨g, o + k, none⟩) m A] w1 (IntsNew w1 (xs.drop k))) := Lib.hid fun w1 A m hm hb => by
    subst hm
    have := l1Own_any g (o + k) A (xs.drop k) w1 (Nat.lt_of_lt_of_le hg hb.size) (fun j hj => by
      rw [List.length_drop] at hj
      rw [Nat.add_assoc, List.getD_eq_getElem?_getD, List.getElem?_drop, ← List.getD_eq_getElem?_getD]
      exact (hb.cell (p := ⟨g, o + (k + j), none⟩) hg).trans (hcells (k + j) (by omega))) (by rw [List.length_drop]; omega)
    rwa [List.length_drop] at this
  have HC : Hid (∀ w1, Below w.heap.size w w1 → ∀ j, j < (xs.take k).length → w1.cell? ⟨g, o + j, none⟩ = some (.int .i64 ((xs.take k).getD j 0))) := Lib.hid fun w1 hb j hj => by
    rw [List.length_take] at hj
    rw [List.getD_eq_getElem?_getD, List.getElem?_take, if_pos (by omega), ← List.getD_eq_getElem?_getD]
    exact (hb.cell (p := ⟨g, o + j, none⟩) hg).trans (hcells j (by omega))
  have HT : Hid ((xs.take k).length = k) := Lib.hid (by rw [List.length_take]; omega)
  have HR : Hid (xs.drop k ++ xs.take k = rot xs k) := Lib.hid rfl
  have HZ : Hid ((xs.drop k).length + (xs.take k).length ≤ 1099511627776) := Lib.hid (by rw [List.length_drop, List.length_take]; omega)
  clear hcells
  generalize rot xs k = R at *
  have b1 : (0 : Int) ≤ (k : Int) := by omega
  have b2 : (k : Int) ≤ (xs.length : Int) := by omega
  have b3 : (xs.length : Int) ≤ (c : Int) := by omega
  have b4 : (k : Int) ≤ (c : Int) := by omega
  have b5 : ¬ (c = k) := by omega
  have hbd : Below w.heap.size w w.drew := by first | exact (Below.refl _ _).drew | exact below_drewN (Below.refl _ _) 1
  go_enter Try.func35, Try.ntmps35
  go_wp2_with fail
  go_region_law (first
    | (go_simp; go_at_call 60; (try rw [if_neg b5]); refine (HL.out _ _ _ rfl hbd).mono ?_; rintro e w1 ⟨v1, rfl, hr1, hb1⟩)
    | (have hb2 : Below w.heap.size w w1 := hbd.trans hb1; refine step_extend (.tmp 8) (.tmp 11) rfl rfl w.heap.size _ _ _ (by rfl) hr1 g o c k HT.out (by rfl) (HC.out _ hb2) HZ.out hb2.size ?_; intro v2 w2 hr2 hg2))
  go_wp2_with fail
  go_ret
  rw [HR.out] at hr2
  exact ⟨_, rfl, hr2, hb2.grown hg2 hb2.size (fun q hq => (hr1.blk q hq).1)⟩
theorem degB_cells {w : World} {A0 : Option Addr} {cap : Nat} {xs : List Int} (h : RInts w (.slice A0 xs.length cap) xs) (hd : degB xs = true) :
    ∃ g o, A0 = some ⟨g, o, none⟩ ∧ g < w.heap.size ∧ ∀ j, j < xs.length → w.cell? ⟨g, o + j, none⟩ = some (.int .i64 (xs.getD j 0)) := by
  have hn := (degB_of hd).1
  obtain ⟨g, o, cc, hv, hg, hc⟩ := h.cells (by omega)
  exact ⟨g, o, by injection hv, hg, hc⟩
def rotOk (xs : List Int) (k : Int) : Bool := degB xs && inB k 0 (xs.length - 1)
def rotV (xs : List Int) (k : Int) : List Int := if rotOk xs k then rot xs k.toNat else []
theorem rotV_len (xs : List Int) (k : Int) (hl : xs.length ≤ 1048576) : (rotV xs k).length ≤ 1048577 := by
  unfold rotV
  split
  · unfold rot
    rw [List.length_append, List.length_drop, List.length_take]
    omega
  · simp
set_option maxHeartbeats 800000 in
theorem specRotateList_ret (v : Value) (xs : List Int) (k : Int) (w : World) (h : RInts w v xs) (hl : xs.length ≤ 1048576) :
    Calls Try.prog 22 #[v, .int .i64 k] w (IntsRet w (rotOk xs k) (rotV xs k)) := by
  obtain ⟨A, c, rfl⟩ := h.shape
  obtain ⟨hc, hm⟩ := h.room _ _ _ rfl
  have H := Lib.hid h
  have HG : Hid (∀ w, RInts w (.slice A xs.length c) xs → Calls Try.prog 33 #[.slice A xs.length c] w fun e w' => e = .returned (.bool (degB xs)) ∧ w = w') := Lib.hid fun w h => cyGood_any _ xs w h hl
  rcases Bool.eq_false_or_eq_true (degB xs) with hd | hd
  · have hn := (degB_of hd).1
    by_cases hk : 0 ≤ k ∧ k ≤ (xs.length : Int) - 1
    · have HI : Hid (inB k 0 ((xs.length : Int) - 1) = true) := Lib.hid (inB_yes hk)
      obtain ⟨j, rfl⟩ := Int.eq_ofNat_of_zero_le hk.1
      obtain ⟨g, o, rfl, hg, hcells⟩ := degB_cells h hd
      have HR : Hid (Calls Try.prog 35 #[.slice (some ⟨g, o, none⟩) xs.length c, .int .i64 j] w (IntsNew w (rot xs j))) := Lib.hid (cyRotate_any g o c j xs w hg hcells hl hc hm (by omega))
      have e1 : rotOk xs (j : Int) = true := by unfold rotOk; rw [hd, HI.out]; rfl
      have e2 : rotV xs (j : Int) = rot xs j := by unfold rotV; rw [e1]; rfl
      rw [e1, e2]
      rw [hd] at HG
      clear h hcells e1 e2 hd
      go_enter Try.func22, Try.ntmps22
      go_wp2_with (first | (go_at_call 33; refine (HG.out _ H.out).mono ?_; rintro e w' ⟨rfl, rfl⟩) | (go_at_call 47; refine (in_any _ _ _ _).mono ?_; rintro e w' ⟨rfl, rfl⟩; rw [HI.out]) | (go_at_call 35; refine HR.out.mono ?_; rintro e w1 ⟨v1, rfl, hr1, hb1⟩))
      go_ret2
      exact ⟨_, rfl, hr1, hb1⟩
    · have HI : Hid (inB k 0 ((xs.length : Int) - 1) = false) := Lib.hid (inB_no hk)
      have e1 : rotOk xs k = false := by unfold rotOk; rw [HI.out, Bool.and_false]
      have e2 : rotV xs k = [] := by unfold rotV; rw [e1]; rfl
      rw [e1, e2]
      rw [hd] at HG
      clear h e1 e2 hd hk
      go_enter Try.func22, Try.ntmps22
      go_wp2_with (first | (go_at_call 33; refine (HG.out _ H.out).mono ?_; rintro e w' ⟨rfl, rfl⟩) | (go_at_call 47; refine (in_any _ _ _ _).mono ?_; rintro e w' ⟨rfl, rfl⟩; rw [HI.out]))
      go_ret2
      exact ⟨_, rfl, IRow.nil _ _, Below.refl _ _⟩
  · have e1 : rotOk xs k = false := by unfold rotOk; rw [hd, Bool.false_and]
    have e2 : rotV xs k = [] := by unfold rotV; rw [e1]; rfl
    rw [e1, e2]
    rw [hd] at HG
    clear h e1 e2 hd
    go_enter Try.func22, Try.ntmps22
    go_wp2_with (go_at_call 33; refine (HG.out _ H.out).mono ?_; rintro e w' ⟨rfl, rfl⟩)
    go_ret2
    exact ⟨_, rfl, IRow.nil _ _, Below.refl _ _⟩
end Go.Proofs.Ytmfcknlpbliehab

/- GoodRotations. -/
namespace Go.Proofs.Ytmfcknlpbliehab
open Go.RowKit
set_option linter.unusedVariables false
theorem degB_rot {xs : List Int} {k : Nat} (h : degB xs = true) (hk : k ≤ xs.length) : degB (rot xs k) = true := by
  unfold degB at *
  rw [rot_length xs k hk]
  rw [Bool.and_eq_true] at h ⊢
  refine ⟨h.1, ?_⟩
  have h2 := h.2
  unfold allB at *
  rw [List.all_eq_true] at *
  intro x hx
  unfold rot at hx
  rw [List.mem_append] at hx
  rcases hx with hx | hx
  · exact h2 x (List.mem_of_mem_drop hx)
  · exact h2 x (List.mem_of_mem_take hx)
/-- the good ones among the first k rotations -/
def goods (xs : List Int) : Nat → List Int
  | 0 => []
  | k + 1 => if forB (rot xs k) then goods xs k ++ [(k : Int)] else goods xs k
theorem goods_length (xs : List Int) : ∀ k, (goods xs k).length ≤ k
  | 0 => by simp [goods]
  | k + 1 => by
    have := goods_length xs k
    rw [goods]
    split
    · rw [List.length_append]; simp; omega
    · omega
def goodV (xs : List Int) : List Int := if degB xs then goods xs xs.length else []
theorem goodV_len (xs : List Int) (hl : xs.length ≤ 1048576) : (goodV xs).length ≤ 1048577 := by
  unfold goodV
  split
  · have := goods_length xs xs.length
    omega
  · simp
set_option maxHeartbeats 1600000 in
theorem specGoodRotations_ret (v : Value) (xs : List Int) (w : World) (h : RInts w v xs) (hl : xs.length ≤ 1048576) :
    Calls Try.prog 8 #[v] w (IntsRet w (degB xs) (goodV xs)) := by
  obtain ⟨A, c, rfl⟩ := h.shape
  obtain ⟨hc, hm⟩ := h.room _ _ _ rfl
  have H := Lib.hid h
  have HG : Hid (∀ w, RInts w (.slice A xs.length c) xs → Calls Try.prog 33 #[.slice A xs.length c] w fun e w' => e = .returned (.bool (degB xs)) ∧ w = w') := Lib.hid fun w h => cyGood_any _ xs w h hl
  rcases Bool.eq_false_or_eq_true (degB xs) with hd | hd
  · have hn := (degB_of hd).1
    have e2 : goodV xs = goods xs xs.length := by unfold goodV; rw [hd]; rfl
    have HD := Lib.hid hd
    obtain ⟨g, o, rfl, hg, hcells⟩ := degB_cells h hd
    have HR : Hid (∀ w1 k, Below w.heap.size w w1 → k < xs.length → Calls Try.prog 35 #[.slice (some ⟨g, o, none⟩) xs.length c, .int .i64 (k : Int)] w1 (IntsNew w1 (rot xs k))) :=
      Lib.hid fun w1 k hb hk => cyRotate_any g o c k xs w1 (Nat.lt_of_lt_of_le hg hb.size) (fun j hj => (hb.cell (p := ⟨g, o + j, none⟩) hg).trans (hcells j hj)) hl hc hm hk
    have HF : Hid (∀ w1 B v1 k, k < xs.length → IRow w1 B v1 (rot xs k) → Calls Try.prog 34 #[v1] w1 fun e w' => e = .returned (.bool (forB (rot xs k))) ∧ w1 = w') :=
      Lib.hid fun w1 B v1 k hk hr => cyForest_any v1 (rot xs k) w1 (RInts.of_row hr) (degB_rot HD.out (by omega))
    have HGS : Hid (∀ k, goods xs (k + 1) = if forB (rot xs k) then goods xs k ++ [(k : Int)] else goods xs k) := Lib.hid fun k => rfl
    have HGL : Hid (∀ k, (goods xs k).length ≤ k) := Lib.hid (goods_length xs)
    rw [hd, e2]
    rw [hd] at HG
    clear h hcells e2 hd
    go_enter Try.func8, Try.ntmps8
    go_wp2_with (go_at_call 33; refine (HG.out _ H.out).mono ?_; rintro e w' ⟨rfl, rfl⟩)
    go_loopw [4, 11] (fun v i wr => ∃ k : Nat, k ≤ xs.length ∧ i = .int .i64 (k : Int) ∧ IRow wr w.heap.size v (goods xs k) ∧ Below w.heap.size w wr) (fun _ i _ => xs.length - (intOf i).toNat)
    case atStart => exact ⟨0, by omega, rfl, IRow.nil _ _, Below.refl _ _⟩
    case round =>
      obtain ⟨k, hk, rfl, hrow, hb⟩ := hrel
      have hgl := HGL.out k
      have hsz := hb.size
      by_cases hlt : k < xs.length
      · have HR1 := Lib.hid (HR.out wr k hb hlt)
        have HF1 := Lib.hid (HF.out · · · k hlt)
        have HG1 := Lib.hid (HGS.out k)
        clear HR HF HGS HGL
        generalize goods xs k = L at *
        by_cases hf : forB (rot xs k) = true
        · rw [hf] at HF1
          rw [if_pos hf] at HG1
          clear hf
          go_wp2_with (first
            | (go_at_call 35; refine HR1.out.mono ?_; rintro e w1 ⟨v1, rfl, hr1, hb1⟩; have hrow1 := hrow.below hb1; have hb01 : Below w.heap.size w w1 := hb.trans (hb1.mono hsz); have hsz1 : w.heap.size ≤ w1.heap.size := hb01.size)
            | (go_at_call 34; refine (HF1.out _ _ _ hr1).mono ?_; rintro e w' ⟨rfl, rfl⟩)
            | (at_builtin; refine wpList_push (.tmp 18) (.tmp 20) rfl rfl w.heap.size _ L rfl hrow1 rfl (by omega) hsz1 ?_; intro v' w' hrow' hg' hat'))
          go_roundw
          case rel =>
            exact ⟨k + 1, by omega, by go_num, by rw [HG1.out]; exact hrow', hb01.grown hg' hsz1 (fun q hq => (hrow1.blk q hq).1)⟩
          case measure => first | (simp [intOf]; done) | (simp [intOf]; omega)
        · rw [Bool.not_eq_true] at hf
          rw [if_neg (by rw [hf]; simp)] at HG1
          rw [hf] at HF1
          clear hf
          go_wp2_with (first
            | (go_at_call 35; refine HR1.out.mono ?_; rintro e w1 ⟨v1, rfl, hr1, hb1⟩; have hrow1 := hrow.below hb1; have hb01 : Below w.heap.size w w1 := hb.trans (hb1.mono hsz))
            | (go_at_call 34; refine (HF1.out _ _ _ hr1).mono ?_; rintro e w' ⟨rfl, rfl⟩))
          go_roundw
          case rel =>
            exact ⟨k + 1, by omega, by go_num, by rw [HG1.out]; exact hrow1, hb01⟩
          case measure => first | (simp [intOf]; done) | (simp [intOf]; omega)
      · have hk2 : k = xs.length := by omega
        subst hk2
        go_wp2
        go_ret2
        exact ⟨_, rfl, hrow, hb⟩
  · have e2 : goodV xs = [] := by unfold goodV; rw [hd]; rfl
    rw [hd, e2]
    rw [hd] at HG
    clear h e2 hd
    go_enter Try.func8, Try.ntmps8
    go_wp2_with (go_at_call 33; refine (HG.out _ H.out).mono ?_; rintro e w' ⟨rfl, rfl⟩)
    go_ret2
    exact ⟨_, rfl, IRow.nil _ _, Below.refl _ _⟩
end Go.Proofs.Ytmfcknlpbliehab
