/- Pack 23 of what FnExactOrderedOfRank needs: HkI, HkI2. -/
import Derived.Test.YtmfcknlpbliehaaKFnExactOrderedOfRank22
import Derived.RegionTactic
import Derived.Deep.QuietTactic
/- HooksOf: the program's closure; a push at a drawn step. -/
namespace Go.Proofs.Ytmfcknlpbliehaa
open Go.RowKit
set_option linter.unusedVariables false
set_option maxRecDepth 100000 in
theorem run_pushI (w : World) (ty : TypeId) (B : Nat) (v : Value) (u : Int) (xs : List Int) (hown : IRow w B v xs) (gb : Nat) (hc : w.cell? ⟨gb, 0, none⟩ = some (.int .i64 u)) (hlen : xs.length ≤ 2000000) (hB : B ≤ w.heap.size) :
    ∃ v' w', (Builtin.append_ #[22, 22] ty #[v, .slice (some ⟨gb, 0, none⟩) 1 1]).run Try.prog w = .ok v' w' ∧ IRow w' B v' (xs ++ [u]) ∧ w.grownBy w' v.ownBlock ∧ (v'.ownBlock = v.ownBlock ∨ ∃ g, v'.ownBlock = some g ∧ w.heap.size ≤ g) := by
  obtain ⟨i0, hi, hz0, hz1, hz2⟩ := info_parts intInfo
  obtain ⟨v', w', hr, h2, h3, h4, h5⟩ := run_append_own_at (P := Try.prog) w B 22 ty 3 i0 (.int .i64 0) 1 8 Try.underlying22 hi hz0 hz1 hz2 rfl (by decide) v xs.length (xs.map (Value.int .i64)) hown
    ⟨gb, 0, none⟩ 1 1 [.int .i64 u] rfl (by
      intro j y hj
      match j, hj with
      | 0, hj => simp at hj; subst hj; simpa [Addr.add] using hc) (by intro y hy; simp at hy; subst hy; rfl) (by unfold maxLen; omega) (by omega) hB
  refine ⟨v', w', hr, ?_, h3, ?_⟩
  · unfold IRow
    simpa using h2
  · rcases h5 with h5 | h5
    · exact .inl h5
    · exact .inr ⟨_, h5, Nat.le_refl _⟩
set_option maxRecDepth 100000 in
theorem step_pushI {ops : Array Oper} {o : Oper} {a : Act} {K : Act → World → Prop} {Q : Exit → Act → World → Prop} {E : Prop} {w : World} (s x : Operand) (hgd : o.guard = none)
    (ho : o.op = .call { callee := .builtin .append, args := #[s, x], argTypes := #[22, 22] })
    (B : Nat) (v : Value) (xs : List Int) (hs : a.eval s = v) (hown : IRow w B v xs) (gb : Nat) (u : Int) (hx : a.eval x = .slice (some ⟨gb, 0, none⟩) 1 1)
    (hc : w.cell? ⟨gb, 0, none⟩ = some (.int .i64 u)) (hlen : xs.length ≤ 2000000) (hB : B ≤ w.heap.size)
    (h : ∀ v' w', IRow w' B v' (xs ++ [u]) → w.grownBy w' v.ownBlock → (v'.ownBlock = v.ownBlock ∨ ∃ g, v'.ownBlock = some g ∧ w.heap.size ≤ g) → K (a.put o.dst v') w') :
    if Region.wanted o (yielded ops a.tmps) = true then Oper.wp Try.prog o a w K Q else E := by
  have hw : Region.wanted o (yielded ops a.tmps) = true := by simp [Region.wanted, hgd]
  rw [if_pos hw]
  obtain ⟨v', w', hr, h2, h3, h4⟩ := run_pushI w o.type B v u xs hown gb hc hlen hB
  unfold Oper.wp execOp
  simp only [ho, resolve, invoke, builtin, Sem.run_bind, Sem.run_pure, Result.andThen_ok, List.map_toArray, List.map_cons, List.map_nil, hs, hx, hr]
  exact h v' w' h2 h3 h4
theorem res_at {xs : List Int} (h : resB xs = true) : xs.length = 4 ∧ ∀ k, k < 4 → ∃ m : Nat, xs.getD k 0 = (m : Int) ∧ m ≤ 16 := by
  obtain ⟨a, b, c, d, rfl, h1, h2, h3, h4⟩ := (resB_iff xs).1 h
  refine ⟨rfl, fun k hk => ?_⟩
  have : k = 0 ∨ k = 1 ∨ k = 2 ∨ k = 3 := by omega
  rcases this with e | e | e | e <;> subst e
  · exact ⟨a, rfl, by omega⟩
  · exact ⟨b, rfl, by omega⟩
  · exact ⟨c, rfl, by omega⟩
  · exact ⟨d, rfl, by omega⟩
theorem drop_getD (xs : List Int) (i k : Nat) : (xs.drop i).getD k 0 = xs.getD (i + k) 0 := by
  rw [List.getD_eq_getElem?_getD, List.getD_eq_getElem?_getD, List.getElem?_drop]
theorem hk_start (xs : List Int) (i : Nat) (j : Int) : laN j ((xs.drop (i + 1)).take 0) = 0 := by simp [laN]
theorem hk_yes {xs : List Int} {i k : Nat} {j : Int} (hk : i + 1 + k < xs.length) (h : j < xs.getD (i + 1 + k) 0) : laN j ((xs.drop (i + 1)).take (k + 1)) = laN j ((xs.drop (i + 1)).take k) + 1 := by
  rw [laN_take j _ k (by rw [List.length_drop]; omega), drop_getD, if_pos h]
theorem hk_no {xs : List Int} {i k : Nat} {j : Int} (hk : i + 1 + k < xs.length) (h : ¬ j < xs.getD (i + 1 + k) 0) : laN j ((xs.drop (i + 1)).take (k + 1)) = laN j ((xs.drop (i + 1)).take k) := by
  rw [laN_take j _ k (by rw [List.length_drop]; omega), drop_getD, if_neg h]; rfl
theorem hk_end (xs : List Int) (i : Nat) (j : Int) {k : Nat} (h : xs.length ≤ i + 1 + k) : hkN xs i j = xs.getD i 0 - j + (laN j ((xs.drop (i + 1)).take k) : Nat) := by
  unfold hkN
  rw [List.take_of_length_le (by rw [List.length_drop]; omega)]
set_option maxRecDepth 100000 in
set_option maxHeartbeats 1600000 in
theorem hook_any (b g0 o0 cc0 : Nat) (xs : List Int) (i m j : Nat) (W : World) (h4 : xs.length = 4) (hi : i < 4) (hm : xs.getD i 0 = (m : Int)) (hm16 : m ≤ 16) (hj : j < m) (hcc : 4 ≤ cc0 ∧ cc0 ≤ maxLen)
    (hbx : W.cell? ⟨b, 0, none⟩ = some (.slice (some ⟨g0, o0, none⟩) 4 cc0)) (hcells : ∀ k, k < 4 → W.cell? ⟨g0, o0 + k, none⟩ = some (.int .i64 (xs.getD k 0))) :
    Calls Try.prog 30 #[.int .i64 (i : Int), .int .i64 (j : Int), .pointer (some ⟨b, 0, none⟩)] W fun e w' => e = .returned (.int .i64 (hkN xs i (j : Int))) ∧ W = w' := by
  unfold maxLen at hcc
  have HC := Lib.hid hcells
  have e1 := hcells i hi
  rw [hm] at e1
  have HY := Lib.hid (fun k => hk_yes (xs := xs) (i := i) (k := k) (j := (j : Int)))
  have HN := Lib.hid (fun k => hk_no (xs := xs) (i := i) (k := k) (j := (j : Int)))
  have HE := Lib.hid (fun k => hk_end xs i (j : Int) (k := k))
  have HS0 := Lib.hid (hk_start xs i (j : Int))
  have HLE : Hid (∀ k, laN (j : Int) ((xs.drop (i + 1)).take k) ≤ 4) := Lib.hid fun k => by
    have := laN_le (j : Int) ((xs.drop (i + 1)).take k)
    rw [List.length_take, List.length_drop] at this
    omega
  rw [hm] at HE
  rw [h4] at HY HN HE
  generalize hkN xs i (j : Int) = H at *
  generalize hF : (fun k => laN (j : Int) ((xs.drop (i + 1)).take k)) = F at *
  have hFk : ∀ k, laN (j : Int) ((xs.drop (i + 1)).take k) = F k := fun k => by rw [← hF]
  simp only [hFk] at HY HN HE HS0 HLE
  clear hcells hF hFk hm h4
  by_cases hi3 : i < 3
  · have hne : ¬ cc0 = i + 1 := by omega
    go_enter Try.func30, Try.ntmps30
    go_wp2
    go_loop [6, 20] (fun s q => ∃ k : Nat, i + 1 + k ≤ 4 ∧ q = .int .i64 (k : Int) ∧ s = .int .i64 ((m : Int) - (j : Int) + (F k : Nat))) (fun _ q => 4 - (intOf q).toNat)
    case atStart => exact ⟨0, by omega, rfl, by rw [HS0.out]; go_num⟩
    case round =>
      obtain ⟨k, hk, rfl, rfl⟩ := hrel
      by_cases hlt : i + 1 + k < 4
      · have e2 := HC.out (i + 1 + k) (by omega)
        rw [← Nat.add_assoc] at e2
        have HY1 := Lib.hid (HY.out k hlt)
        have HN1 := Lib.hid (HN.out k hlt)
        have hle := HLE.out k
        clear HY HN HE HS0 HLE HC
        generalize xs.getD (i + 1 + k) 0 = x at *
        generalize hF1 : F (k + 1) = F1 at *
        have HF1 := Lib.hid hF1
        clear hF1
        generalize F k = F0 at *
        have i1 : (k : Int) < 4 - ((i : Int) + 1) := by omega
        by_cases hx : (j : Int) < x
        · have HQ := Lib.hid (HY1.out hx)
          go_wp2
          refine ⟨⟨k + 1, by omega, by go_num, ?_⟩, ?_⟩
          · rw [HF1.out, HQ.out] <;> go_num
          · first | (simp [intOf]; done) | (simp [intOf]; omega)
        · have HQ := Lib.hid (HN1.out (by omega))
          go_wp2
          refine ⟨⟨k + 1, by omega, by go_num, ?_⟩, ?_⟩
          · rw [HF1.out, HQ.out] <;> go_num
          · first | (simp [intOf]; done) | (simp [intOf]; omega)
      · have HE1 := Lib.hid (HE.out k (by omega))
        have i1 : ¬ (k : Int) < 4 - ((i : Int) + 1) := by omega
        go_wp2
        go_ret
        exact ⟨by rw [HE1.out]; rfl, rfl⟩
  · obtain rfl : i = 3 := by omega
    have HE1 := Lib.hid (HE.out 0 (by omega))
    rw [HS0.out] at HE1
    clear HY HN HE HS0 HLE HC hi3
    by_cases h4 : cc0 = 4
    · subst h4
      go_enter Try.func30, Try.ntmps30
      go_wp2
      refine wp_loop_rounds 1 ?_
      rw [rounds_succ]
      go_wp2
      go_ret
      exact ⟨ret_int (by rw [HE1.out]; simp), rfl⟩
    · have hne : ¬ cc0 = 3 + 1 := by omega
      go_enter Try.func30, Try.ntmps30
      go_wp2
      refine wp_loop_rounds 1 ?_
      rw [rounds_succ]
      go_wp2
      go_ret
      exact ⟨ret_int (by rw [HE1.out]; simp), rfl⟩
end Go.Proofs.Ytmfcknlpbliehaa

/- HooksOf: the program. -/
namespace Go.Proofs.Ytmfcknlpbliehaa
open Go.RowKit
set_option linter.unusedVariables false
/-- the rows of hooks while row i is filled up to j -/
def hkT (xs : List Int) (i j : Nat) : List (List Int) := (List.range 4).map fun r => if r < i then hkRow xs r (xs.getD r 0).toNat else if r = i then hkRow xs i j else []
theorem hkT_len (xs : List Int) (i j : Nat) : (hkT xs i j).length = 4 := by simp [hkT]
theorem hkT_zero (xs : List Int) : hkT xs 0 0 = List.replicate 4 [] := by simp [hkT, hkRow]; rfl
theorem hkT_get (xs : List Int) (i j : Nat) (h : i < 4) : (hkT xs i j).getD i [] = hkRow xs i j := by
  unfold hkT
  rw [List.getD_eq_getElem?_getD, List.getElem?_map, List.getElem?_range h]
  show (if i < i then _ else if i = i then _ else _) = _
  rw [if_neg (by omega), if_pos rfl]
theorem hkT_set (xs : List Int) (i j : Nat) (h : i < 4) : (hkT xs i j).set i (hkRow xs i j ++ [hkN xs i (j : Int)]) = hkT xs i (j + 1) := by
  apply List.ext_getElem
  · simp [hkT]
  · intro r h1 h2
    rw [List.getElem_set]
    simp only [hkT, List.getElem_map, List.getElem_range]
    by_cases e : i = r
    · subst e
      rw [if_pos rfl, if_neg (by omega), if_pos rfl]
      rfl
    · rw [if_neg e]
      by_cases c : r < i
      · rw [if_pos c, if_pos c]
      · rw [if_neg c, if_neg c, if_neg (fun x => e x.symm), if_neg (fun x => e x.symm)]
theorem hkT_next (xs : List Int) (i m : Nat) (e : xs.getD i 0 = (m : Int)) : hkT xs (i + 1) 0 = hkT xs i m := by
  apply List.ext_getElem
  · simp [hkT]
  · intro r h1 h2
    simp only [hkT, List.getElem_map, List.getElem_range]
    by_cases c : r < i
    · rw [if_pos (by omega), if_pos c]
    · rw [if_neg c]
      by_cases c2 : r = i
      · subst c2
        rw [if_pos (by omega), if_pos rfl, e]
        rfl
      · rw [if_neg (by omega), if_neg c2]
        by_cases c3 : r = i + 1
        · subst c3; rw [if_pos rfl]; rfl
        · rw [if_neg c3]
theorem hkT_full (xs : List Int) : hkT xs 4 0 = hksTo xs 4 := rfl
def hkV (xs : List Int) : List (List Int) := if resB xs = true then hksTo xs 4 else []
theorem alloc_cell0 (w : World) (T : TypeId) (x : Value) : (w.alloc (.cells #[x] T)).cell? ⟨w.heap.size, 0, none⟩ = some x := by simp [go_sem]
set_option maxRecDepth 100000 in
set_option maxHeartbeats 4000000 in
theorem hooksOf_ret (v : Value) (xs : List Int) (w : World) (h : RInts w v xs) (hl : xs.length ≤ 1048576) : Calls Try.prog 25 #[v] w (TabsRet w (resB xs) (hkV xs)) := by
  obtain ⟨i0, hi0, hz0, hz1, hz2⟩ := info_parts vecInfo
  have hmf : ∀ (fn : Fn) (first cap : Array Value) (w : World), (Instr.makeFunc fn first cap).run Try.prog w = .ok (.func fn first cap) w := fun _ _ _ _ => rfl
  have HV : Hid (∀ w1, Below w.heap.size w w1 → Calls Try.prog 29 #[v] w1 (Ret w1 (.bool (resB xs)))) := Lib.hid fun w1 hb => isResult_any v xs w1 (h.below hb) hl
  unfold hkV
  rcases Bool.eq_false_or_eq_true (resB xs) with hr | hr
  · obtain ⟨h4, hmm⟩ := res_at hr
    obtain ⟨g0, o0, cc0, rfl, hg0, hcells0⟩ := h.cells (by omega)
    have hroom := h.room _ _ _ rfl
    rw [h4] at hroom hcells0
    have HM := Lib.hid hmm
    rw [hr] at HV
    rw [hr, if_pos rfl]
    have HHK : Hid (∀ (W : World) (i m j : Nat), i < 4 → xs.getD i 0 = (m : Int) → m ≤ 16 → j < m → W.cell? ⟨w.heap.size, 0, none⟩ = some (.slice (some ⟨g0, o0, none⟩) 4 cc0) → (∀ k, k < 4 → W.cell? ⟨g0, o0 + k, none⟩ = some (.int .i64 (xs.getD k 0))) →
        Calls Try.prog 30 #[.int .i64 (i : Int), .int .i64 (j : Int), .pointer (some ⟨w.heap.size, 0, none⟩)] W fun e w' => e = .returned (.int .i64 (hkN xs i (j : Int))) ∧ W = w') :=
      Lib.hid fun W i m j hi hm hm16 hj hbx hc => hook_any w.heap.size g0 o0 cc0 xs i m j W h4 hi hm hm16 hj hroom hbx hc
    have HC := Lib.hid hcells0
    rw [h4] at HV ⊢
    clear hcells0 h hr hmm h4 hroom
    go_enter Try.func25, Try.ntmps25
    go_wp2_with (first | (go_at_call 29; refine (HV.out _ ((Below.refl _ _).alloc (Nat.le_refl _) _)).mono ?_; rintro e w1 ⟨rfl, hb1⟩; have hbx1 := (hb1.cell (p := ⟨w.heap.size, 0, none⟩) (by simp)); simp [go_sem] at hbx1; have hlt1 := hb1.size; simp at hlt1; have hb2 := ((Below.refl w.heap.size w).alloc (Nat.le_refl _) (.cells #[.slice (some ⟨g0, o0, none⟩) 4 cc0] 22)).trans (hb1.mono (by simp))) | (refine wpList_make_full _ rfl (.tmp 14) (.tmp 14) 40 rfl w1.heap.size 22 i0 (.slice none 0 0) 1 Try.underlying40 hi0 hz0 hz1 .i64 .i64 _ _ 4 rfl rfl (by omega) (by omega) (by rw [hz2]; omega) (by unfold maxLen; omega) (Nat.le_refl _) ?_; intro w2 hown1 hgrow1; have hB12 : Below w1.heap.size w1 w2 := (Below.refl _ _).grown hgrow1 (Nat.le_refl _) (by simp); have hbx2 := (hB12.cell (p := ⟨w.heap.size, 0, none⟩) (by show w.heap.size < _; omega)).trans hbx1))
    have hrow1 := TRow.made (by rw [show (List.replicate 4 (Value.slice none 0 0)) = (madeCells (Value.slice none 0 0).cells (4 * 1)).toList from (madeOne _ rfl 4).symm]; exact hown1)
    have hb3 : Below w.heap.size w w2 := hb2.trans (hB12.mono hb2.size)
    have hgo : w.heap.size < w1.heap.size := by omega
    have HBX : Hid (∀ W', Below w1.heap.size w2 W' → W'.cell? ⟨w.heap.size, 0, none⟩ = some (.slice (some ⟨g0, o0, none⟩) 4 cc0)) := Lib.hid fun W' hb => (hb.cell (p := ⟨w.heap.size, 0, none⟩) (by show w.heap.size < w1.heap.size; exact hgo)).trans hbx2
    have HCX : Hid (∀ W', Below w1.heap.size w2 W' → ∀ k, k < 4 → W'.cell? ⟨g0, o0 + k, none⟩ = some (.int .i64 (xs.getD k 0))) := Lib.hid fun W' hb k hk => (hb.cell (p := ⟨g0, o0 + k, none⟩) (by show g0 < w1.heap.size; omega)).trans ((hb3.cell (p := ⟨g0, o0 + k, none⟩) hg0).trans (HC.out k hk))
    clear hown1 hgrow1 hbx1 hbx2 hb1 hlt1
    rw [← hkT_zero xs] at hrow1
    have hgw : w1.heap.size ≤ w2.heap.size := hB12.size
    generalize hgg : w1.heap.size = g at *
    clear hB12 hb2
    go_loopw [18] (fun i wr => ∃ k : Nat, k ≤ 4 ∧ i = .int .i64 (k : Int) ∧ (∃ vs, TRow wr g wr.heap.size (.slice (some ⟨g, 0, none⟩) 4 4) vs (hkT xs k 0)) ∧ Below g w2 wr) (fun i _ => 4 - (intOf i).toNat)
    case atStart => exact ⟨0, Nat.zero_le _, rfl, ⟨_, hrow1⟩, Below.refl _ _⟩
    case round =>
      obtain ⟨k, hk, rfl, ⟨vs, hrow⟩, hb⟩ := hrel
      clear hrow1
      by_cases hlt : k < 4
      · obtain ⟨m, hm, hm16⟩ := HM.out k hlt
        have e1 := HCX.out _ hb k hlt
        rw [hm] at e1
        have ebx := HBX.out _ hb
        have HNX1 := Lib.hid (hkT_next xs k m hm)
        have HROW : Hid (∃ vs, TRow wr g wr.heap.size (.slice (some ⟨g, 0, none⟩) 4 4) vs (hkT xs k 0)) := Lib.hid ⟨vs, hrow⟩
        have HB := Lib.hid hb
        have HMM := Lib.hid hm
        obtain ⟨w0, hw0⟩ : ∃ w0, w0 = wr := ⟨_, rfl⟩
        have q1 : decide ((k : Int) < 4) = true := decide_eq_true (by omega)
        clear hrow hb hm HM
        go_wp2
        subst hw0
        go_loopw [24] (fun i wr => ∃ j : Nat, j ≤ m ∧ i = .int .i64 (j : Int) ∧ (∃ vs, TRow wr g wr.heap.size (.slice (some ⟨g, 0, none⟩) 4 4) vs (hkT xs k j)) ∧ Below g w2 wr) (fun i _ => m - (intOf i).toNat)
        case atStart => exact ⟨0, Nat.zero_le _, rfl, HROW.out, HB.out⟩
        case round =>
          obtain ⟨j, hj, rfl, ⟨vs, hrow⟩, hb⟩ := hrel
          clear HROW HB
          by_cases hlt2 : j < m
          · have hsz := hb.size
            have hr := hrow.row k (by rw [hkT_len]; exact hlt)
            rw [hkT_get xs k j hlt] at hr
            have HSET := Lib.hid (hkT_set xs k j hlt)
            have hcl : wr.cell? ⟨g, k, none⟩ = some (vs.getD k NilS) := by
              have ho := hrow.out
              exact ho.cell (by rw [hrow.len, hkT_len]; exact hlt)
            have HROW := Lib.hid hrow
            have HR := Lib.hid hr
            obtain ⟨A, c0, hsh⟩ := hr.shape
            rw [hkRow_len] at hsh
            have HU := Lib.hid hsh
            rw [hsh] at hcl
            have HHJ : Hid (∀ W, Below g w2 W → Calls Try.prog 30 #[.int .i64 (k : Int), .int .i64 (j : Int), .pointer (some ⟨w.heap.size, 0, none⟩)] W fun e w' => e = .returned (.int .i64 (hkN xs k (j : Int))) ∧ W = w') := Lib.hid fun W hW => HHK.out W k m j hlt HMM.out hm16 hlt2 (HBX.out W hW) (HCX.out W hW)
            clear hrow hr hsh
            generalize hkN xs k (j : Int) = H at *
            have hll := hkRow_len xs k j
            have HLL : Hid ((hkRow xs k j).length = j) := Lib.hid hll
            clear hll
            generalize hkRow xs k j = R at *
            have HBW := Lib.hid hb
            have hglt : g < wr.heap.size := Nat.lt_of_lt_of_le (HROW.out.outB g rfl).2 (Nat.le_refl _)
            have HCL : Hid (∀ T, ((wr.drewN 1).alloc (.cells #[.int .i64 H] T)).cell? ⟨wr.heap.size, 0, none⟩ = some (.int .i64 H)) := Lib.hid fun T => alloc_cell0 (wr.drewN 1) T _
            have hcl3 : ((wr.drewN 1).alloc (.cells #[.int .i64 H] 3)).cell? ⟨g, k, none⟩ = some (.slice A j c0) := ((below_drewN (Below.refl wr.heap.size wr) 1).alloc (Nat.le_refl _) _).cell (p := ⟨g, k, none⟩) hglt |>.trans hcl
            have HGZ : Hid (∀ ob, g ≤ ((wr.drewN 1).alloc ob).heap.size) := Lib.hid fun ob => by simp; omega
            have HRW1 := Lib.hid (HROW.out.drewN 1)
            have HBW1 := Lib.hid (below_drewN HBW.out 1)
            have HVO : Hid (Value.ownBlock (.slice A j c0) = (vs.getD k NilS).ownBlock) := Lib.hid (by rw [HU.out])
            have HRD : Hid (IRow (wr.drewN 1) g (.slice A j c0) R) := Lib.hid (by rw [← HU.out]; exact HR.out.drewN 1)
            clear hb ebx e1
            have i1 : (k : Int) < 4 := by omega
            have i0 : 0 ≤ (k : Int) := by omega
            go_wp2_with fail
            go_region_law (first
              | (go_simp; go_at_call 30; refine (HHJ.out _ (below_drewN HBW.out 1)).mono ?_; rintro e w' ⟨rfl, rfl⟩)
              | (refine step_pushI (.tmp 32) (.tmp 37) rfl rfl g _ R (by rfl) (HRD.out.alloc _) wr.heap.size H (by rfl) (HCL.out _) (by rw [HLL.out]; omega) (HGZ.out _) ?_; intro v' w' hrow' hg' hat'; obtain ⟨A2, c2, hv9⟩ := hrow'.shape; rw [List.length_append, HLL.out, List.length_singleton] at hv9; subst hv9; have hg2 := grown_alloc_left hg'; rw [HVO.out] at hg2; have hp2 := HRW1.out.put (by rw [hkT_len]; exact hlt) hg2 hrow' (by rw [← HVO.out]; rcases hat' with h9 | ⟨q9, h9, h10⟩; exact .inl h9; exact .inr ⟨q9, h9, Nat.le_trans (by simp) h10⟩); have HB2 := Lib.hid (HRW1.out.grownBelow (by rw [hkT_len]; exact hlt) HBW1.out hg2 (.slice A2 (j + 1) c2)); obtain ⟨hcl2, hfr2⟩ := HRW1.out.after (by rw [hkT_len]; exact hlt) hg2; rw [HU.out] at hcl2; rw [HSET.out] at hp2; have HP2 := Lib.hid hp2; clear hp2 hcl hcl3))
            all_goals
              go_wp2_with fail
              refine ⟨⟨j + 1, by omega, by go_num, ⟨_, HP2.out⟩, HB2.out⟩, ?_⟩
              first | (simp [intOf]; done) | (simp [intOf]; omega)
          · obtain rfl : j = m := by omega
            have HR : Hid (∃ vs, TRow wr g wr.heap.size (.slice (some ⟨g, 0, none⟩) 4 4) vs (hkT xs k j)) := Lib.hid ⟨vs, hrow⟩
            clear hrow
            go_wp2
            go_roundw
            case rel => exact ⟨k + 1, by omega, by go_num, by rw [HNX1.out]; exact HR.out, hb⟩
            case measure => first | (simp [intOf]; done) | (simp [intOf]; omega)
      · obtain rfl : k = 4 := by omega
        have HR := Lib.hid hrow
        clear hrow
        go_wp2
        go_ret2
        exact ⟨_, _, rfl, by rw [← hkT_full]; exact HR.out.mono (by omega) (Nat.le_refl _) (Nat.le_refl _), hb3.trans (hb.mono (by omega))⟩
  · rw [hr] at HV
    rw [hr]
    obtain ⟨A0, cap, rfl⟩ := h.shape
    clear h hr
    go_enter Try.func25, Try.ntmps25
    go_wp2_with (go_at_call 29; refine (HV.out _ ((Below.refl _ _).alloc (Nat.le_refl _) _)).mono ?_; rintro e w1 ⟨rfl, hb1⟩)
    go_ret2
    exact ⟨_, _, rfl, TRow.nil (Nat.le_refl _), ((Below.refl _ _).alloc (Nat.le_refl _) _).trans (hb1.mono (by simp))⟩
end Go.Proofs.Ytmfcknlpbliehaa
