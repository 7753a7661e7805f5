/- The model's TreeOfPath. -/
import Derived.Test.YtgajknnfmnnfeaaTopP
import Derived.Test.YtgajknnfmnnfeaaParS
namespace Go.Proofs.Ytgajknnfmnnfeaa
open Go.RowKit
set_option linter.unusedVariables false
def upI (S : List Nat) : List Int := S.reverse.map fun p : Nat => (p : Int)
theorem upI_len (S : List Nat) : (upI S).length = S.length := by simp [upI]
theorem upI_cons (p : Nat) (S : List Nat) : upI (p :: S) = upI S ++ [(p : Int)] := by simp [upI]
theorem upI_top (p : Nat) (S : List Nat) : (upI (p :: S)).getD S.length 0 = (p : Int) := by
  rw [upI_cons, List.getD_eq_getElem?_getD, List.getElem?_append_right (by rw [upI_len]; exact Nat.le_refl _), upI_len, Nat.sub_self]
  rfl
theorem upI_pop (p : Nat) (S : List Nat) : (upI (p :: S)).take S.length = upI S := by
  rw [upI_cons, ← upI_len S, List.take_left]
set_option maxHeartbeats 3000000 in
theorem specTreeOfPath_yes (s : ByteArray) (w : World) (hs : s.size ≤ maxLen) (hv : topOk s = true) : Calls Try.prog 46 #[.string s] w (IntsRet w true (topV s)) := by
  obtain ⟨hp, hL0, hLE, h4⟩ := top_parts hv
  have hsz : s.data.toList.length = s.size := by simp
  have hf := (top_ex hv).choose_spec
  have hs30 : s.size ≤ 31 := by omega
  have HE : Hid ((tpRun s.data.toList ([0], [0])).1 = topV s) := Lib.hid (by
    unfold topV
    rw [dif_pos hv, ← tp_tree, hf])
  have HINV := Lib.hid (fun k hk => tp_inv s.data.toList (path_ud hp) hL0 k hk)
  have HSN := Lib.hid (fun k hk => tpRun_snoc s.data.toList k hk ([0], [0]))
  have HUD : Hid (∀ k (h : k < s.size), s[k] = 85 ∨ s[k] = 68) := Lib.hid fun k h => path_ud hp _ (by
    have : s[k] = s.data.toList[k]'(by simpa using h) := rfl
    rw [this]; exact List.getElem_mem _)
  have HH : Hid (∀ k, k ≤ s.size → 0 ≤ hL s.data.toList k) := Lib.hid fun k hk => hL0 k (by omega)
  have HGE : Hid (∀ k (h : k < s.size), s.data.toList[k]'(by simpa using h) = s[k]) := Lib.hid fun k h => rfl
  have hlow : ¬ minTo s s.size < 0 := by
    have h5 := hv
    unfold topOk goodV at h5
    simp only [Bool.and_eq_true, decide_eq_true_iff] at h5
    omega
  have hend : hAt s s.size = 0 := by rw [hAt_hL, ← hsz]; exact hLE
  have hlb := minTo_bd s s.size (Nat.le_refl _)
  have HP := Lib.hid hp
  have HLW : Hid (∀ w, Calls Try.prog 79 #[.string s] w (Ret w (.int .i64 (minTo s s.size)))) := Lib.hid fun w => paLow_ret s w hp
  have HEN : Hid (∀ w, Calls Try.prog 80 #[.string s] w (Ret w (.int .i64 0))) := Lib.hid fun w => by rw [← hend]; exact paEnd_ret s w hp
  have q1 : ¬ (16 : Int) < (s.size : Int) / 2 + 1 := by omega
  have q2 : (s.size : Int).tdiv 2 = (s.size : Int) / 2 := Int.tdiv_eq_ediv_of_nonneg (by omega)
  clear hv hL0 hLE h4 hf hend
  generalize minTo s s.size = lw at *
  go_enter Try.func46, Try.ntmps46
  go_wp2_with (first | (go_at_call 78; refine (paGood_any s _ hs).mono ?_; rintro e w' ⟨rfl, rfl⟩) | (go_at_call 79; refine (HLW.out _).mono ?_; rintro e w1 ⟨rfl, hb1⟩) | (go_at_call 80; refine (HEN.out _).mono ?_; rintro e w2 ⟨rfl, hb2⟩))
  have hb12 := hb1.trans (hb2.mono hb1.size)
  have hbs12 := hb12.size
  have r1 : IRow (w2.alloc (.cells #[.int .i64 0] 3)) w.heap.size (.slice (some ⟨w2.heap.size, 0, none⟩) 1 1) [0] :=
    IRow.of_own (World.ownsRow_lit w2 #[.int .i64 0] 1 hbs12 (by simp [maxLen]) rfl) rfl rfl
  have r2 : IRow ((w2.alloc (.cells #[.int .i64 0] 3)).alloc (.cells #[.int .i64 0] 3)) w.heap.size (.slice (some ⟨w2.heap.size + 1, 0, none⟩) 1 1) [0] := by
    have := World.ownsRow_lit (base := w.heap.size) (e := 3) (size := 1) (w2.alloc (.cells #[.int .i64 0] 3)) #[.int .i64 0] 1 (by simp; omega) (by simp [maxLen]) rfl
    rw [show (w2.alloc (.cells #[.int .i64 0] 3)).heap.size = w2.heap.size + 1 by simp] at this
    exact IRow.of_own this rfl rfl
  have r1' := r1.alloc (.cells #[.int .i64 0] 3)
  have hb3 : Below w.heap.size w ((w2.alloc (.cells #[.int .i64 0] 3)).alloc (.cells #[.int .i64 0] 3)) := (hb12.alloc hbs12 _).alloc (by simp; omega) _
  clear r1 hb1 hb2 hb12
  generalize ((w2.alloc (.cells #[.int .i64 0] 3)).alloc (.cells #[.int .i64 0] 3)) = W at *
  go_loopw [4, 5, 6] (fun vo vn i wr => ∃ (k : Nat) (O : List Int) (S : List Nat), k ≤ s.size ∧ i = .int .i64 (k : Int) ∧ Hid (tpRun (s.data.toList.take k) ([0], [0]) = (O, S)) ∧ IRow wr w.heap.size vo O ∧ IRow wr w.heap.size vn (upI S) ∧ (∀ a b, vn.ownBlock = some a → vo.ownBlock = some b → a ≠ b) ∧ Below w.heap.size w wr) (fun _ _ i _ => s.size - (intOf i).toNat)
  case atStart => exact ⟨0, [0], [0], by omega, rfl, Lib.hid rfl, r1', r2, ne_heads (by omega), hb3⟩
  case round =>
    obtain ⟨k, O, S, hk, rfl, HT, hro, hrn, hne, hb⟩ := hrel
    clear r1' r2 hb3
    obtain ⟨i1, i2, i3, i4⟩ := HINV.out k (by omega)
    rw [HT.out] at i1 i2 i3 i4
    simp only at i1 i2 i3 i4
    have hh := HH.out k hk
    have hbs := hb.size
    by_cases hlt : k < s.size
    · have hh1 := HH.out (k + 1) hlt
      obtain ⟨j1, j2, _, _⟩ := HINV.out (k + 1) (by omega)
      rw [HSN.out k (by omega), HT.out, HGE.out k hlt] at j1
      have HT1 : Hid (tpRun (s.data.toList.take (k + 1)) ([0], [0]) = tpStep (O, S) s[k]) := Lib.hid (by rw [HSN.out k (by omega), HT.out, HGE.out k hlt])
      cases S with
      | nil => simp at i1; omega
      | cons p S =>
        have hp := i2 p (by simp)
        obtain ⟨M, hM⟩ : ∃ M, M = S.length := ⟨_, rfl⟩
        have hMk : M ≤ 40 := by
          have hb2 := hAt_bd s k hk
          rw [hAt_hL] at hb2
          rw [List.length_cons] at i1
          omega
        obtain ⟨g1, c1, rfl, hg1B, hg1⟩ := hro.form' rfl (by omega)
        obtain ⟨g2, c2, hv2, hg2B, hg2, hc2, hc3⟩ := hrn.form (by rw [upI_len]; simp)
        have hul : (upI (p :: S)).length = M + 1 := by rw [upI_len, hM]; rfl
        rw [hul] at hv2 hc2
        subst hv2
        have hab : g2 ≠ g1 := hne g2 g1 rfl rfl
        have ec : M < s.size + 40 := by omega
        rcases HUD.out k hlt with hc | hc
        · have hbb : ((s[k].toNat : Int) == 68) = false := by rw [hc]; rfl
          have e1 := hrn.cell (j := M) (by omega)
          rw [hM, upI_top, ← hM] at e1
          have e2 := hro.cell (j := p) hp
          have f2 := hro.free p
          have s1 := hro.set p (O.getD p 0 + 1)
          have hx := i4 p
          have HT2 : Hid (tpRun (s.data.toList.take (k + 1)) ([0], [0]) = (O.set p (O.getD p 0 + 1) ++ [0], O.length :: p :: S)) := Lib.hid (by rw [HT1.out, hc]; rfl)
          have hnd1 := hrn.apart (r := some g1) s1.2 (fun q hq e => by have h3 : some g2 = some q := hq; injection h3 with h3; injection e with e; omega)
          have hro1 := s1.1
          have hb1 := hb.setCell (p := ⟨g1, p, none⟩) hg1B (.int .i64 (O.getD p 0 + 1))
          have hsz1 : w.heap.size ≤ (wr.setCell ⟨g1, p, none⟩ (.int .i64 (O.getD p 0 + 1))).heap.size := hb1.size
          have hne1 : ∀ a b, (Value.slice (some ⟨g2, 0, none⟩) (M + 1) c2).ownBlock = some a → (Value.slice (some ⟨g1, 0, none⟩) O.length c1).ownBlock = some b → a ≠ b := ne_heads hab
          have hol : O.length ≤ 40 := by omega
          have HUC : Hid (upI (p :: S) ++ [(O.length : Int)] = upI (O.length :: p :: S)) := Lib.hid (upI_cons _ _).symm
          clear hro hrn s1 hb HT HT1 HSN HINV HH HUD HGE i1 i2 j1 j2 hne
          have HM := Lib.hid hM
          clear hM
          generalize O.getD p 0 = x at *
          generalize upI (p :: S) = U at *
          have hUl : U.length ≤ 41 := by omega
          go_wp2_with (first
            | (at_builtin; refine wpList_pushG (.tmp 55) (.tmp 58) rfl rfl w.heap.size _ U rfl hnd1 wr.heap.size (by simp [World.setCell]) rfl (by omega) hsz1 ?_; intro v2 w2' hnd2 hg2' hat2; have hro2 := hro1.apart hg2' (fun q hq e => hne1 _ _ e.symm hq rfl); have hne2 := ne_push hat2 hne1 (fun b h => (hro1.blk b h).2); have hb2 := hb1.grown hg2' hsz1 (fun q hq => (hnd1.blk q hq).1); have hsz2 : w.heap.size ≤ w2'.heap.size := hb2.size; clear hat2 hg2')
            | (at_builtin; refine wpList_push (.tmp 60) (.tmp 61) rfl rfl w.heap.size _ _ rfl hro2 rfl (by simp; omega) hsz2 ?_; intro v3 w3 hro3 hg3 hat3))
          have HND3 := Lib.hid (hnd2.apart hg3 (fun q hq e => hne2 _ _ hq e.symm rfl))
          have hne4 := ne_push hat3 (fun a b h1 h2 e => hne2 b a h2 h1 e.symm) (fun b h => (hnd2.blk b h).2)
          have HNE : Hid (∀ a b, v2.ownBlock = some a → v3.ownBlock = some b → a ≠ b) := Lib.hid fun a b h1 h2 e => hne4 b a h2 h1 e.symm
          have HB3 := Lib.hid (hb2.grown hg3 hsz2 (fun q hq => (hro2.blk q hq).1))
          have HRO := Lib.hid hro3
          rw [HUC.out] at HND3
          clear hnd1 hnd2 hro1 hro2 hro3 hg3 hat3 hne4 hne1 hne2 hb1 hb2
          go_roundw
          case rel => exact ⟨k + 1, _, _, by omega, by go_num, HT2, HRO.out, HND3.out, HNE.out, HB3.out⟩
          case measure => first | (simp [intOf]; done) | (simp [intOf]; omega)
        · have hbb : ((s[k].toNat : Int) == 68) = true := by rw [hc]; rfl
          have HT2 : Hid (tpRun (s.data.toList.take (k + 1)) ([0], [0]) = (O, S)) := Lib.hid (by rw [HT1.out, hc]; rfl)
          have hsh := hrn.shrink M (by omega)
          rw [hM, upI_pop, ← hM] at hsh
          have b1 : (M : Int) ≤ (c2 : Int) := by omega
          have HM2 := Lib.hid hM
          clear hrn HT HT1 HSN HINV HH HUD HGE i1 i2 j1 j2 i4 hM
          go_wp2_with fail
          go_roundw
          case rel => exact ⟨k + 1, O, S, by omega, by go_num, HT2, hro, hsh, ne_heads hab, hb⟩
          case measure => first | (simp [intOf]; done) | (simp [intOf]; omega)
    · have hk2 : k = s.size := by omega
      have HO : Hid (O = topV s) := Lib.hid (by
        rw [← HE.out]
        have := HT.out
        rw [List.take_of_length_le (by omega)] at this
        rw [this])
      go_wp2_with fail
      go_ret2
      rw [HO.out] at hro
      exact ⟨_, rfl, hro, hb⟩
set_option maxHeartbeats 800000 in
theorem specTreeOfPath_ret (s : ByteArray) (w : World) (hs : s.size ≤ maxLen) : Calls Try.prog 46 #[.string s] w (IntsRet w (topOk s) (topV s)) := by
  rcases Bool.eq_false_or_eq_true (topOk s) with hv | hv
  · rw [hv]
    exact specTreeOfPath_yes s w hs hv
  · rw [topV_no hv, hv]
    unfold topOk goodV closedV at hv
    rcases Bool.eq_false_or_eq_true (pathB s) with hp | hp
    · have HP := Lib.hid hp
      have h40 := ((pathB_iff s).1 hp).1
      have hlb := minTo_bd s s.size (Nat.le_refl _)
      have heb := hAt_bd s s.size (Nat.le_refl _)
      have HLW : Hid (∀ w, Calls Try.prog 79 #[.string s] w (Ret w (.int .i64 (minTo s s.size)))) := Lib.hid fun w => paLow_ret s w hp
      have HEN : Hid (∀ w, Calls Try.prog 80 #[.string s] w (Ret w (.int .i64 (hAt s s.size)))) := Lib.hid fun w => paEnd_ret s w hp
      rw [hp, Bool.true_and, Bool.true_and] at hv
      generalize minTo s s.size = lw at *
      generalize hAt s s.size = en at *
      by_cases c1 : lw < 0
      · clear hv hp
        go_enter Try.func46, Try.ntmps46
        go_wp2_with (first | (go_at_call 78; refine (paGood_any s _ hs).mono ?_; rintro e w' ⟨rfl, rfl⟩; rw [HP.out]) | (go_at_call 79; refine (HLW.out _).mono ?_; rintro e w1 ⟨rfl, hb1⟩))
        go_ret2
        exact ⟨_, rfl, IRow.nil _ _, hb1⟩
      · rw [decide_eq_true (show 0 ≤ lw by omega), Bool.true_and] at hv
        by_cases c2 : en = 0
        · subst c2
          have q0 : (s.size / 2 + 1 ≤ 16) = False := by
            rw [eq_iff_iff, iff_false]
            intro h
            rw [decide_eq_true h] at hv
            exact absurd hv (by decide)
          have q1 : (16 : Int) < (s.size : Int) / 2 + 1 := by
            have : ¬ s.size / 2 + 1 ≤ 16 := by rw [q0]; exact id
            omega
          have q2 : (s.size : Int).tdiv 2 = (s.size : Int) / 2 := Int.tdiv_eq_ediv_of_nonneg (by omega)
          clear hv hp q0
          go_enter Try.func46, Try.ntmps46
          go_wp2_with (first | (go_at_call 78; refine (paGood_any s _ hs).mono ?_; rintro e w' ⟨rfl, rfl⟩; rw [HP.out]) | (go_at_call 79; refine (HLW.out _).mono ?_; rintro e w1 ⟨rfl, hb1⟩) | (go_at_call 80; refine (HEN.out _).mono ?_; rintro e w2 ⟨rfl, hb2⟩))
          go_ret2
          exact ⟨_, rfl, IRow.nil _ _, hb1.trans (hb2.mono hb1.size)⟩
        · have q : (en == 0) = false := beq_eq_false_iff_ne.2 c2
          clear hv hp
          go_enter Try.func46, Try.ntmps46
          go_wp2_with (first | (go_at_call 78; refine (paGood_any s _ hs).mono ?_; rintro e w' ⟨rfl, rfl⟩; rw [HP.out]) | (go_at_call 79; refine (HLW.out _).mono ?_; rintro e w1 ⟨rfl, hb1⟩) | (go_at_call 80; refine (HEN.out _).mono ?_; rintro e w2 ⟨rfl, hb2⟩))
          go_ret2
          exact ⟨_, rfl, IRow.nil _ _, hb1.trans (hb2.mono hb1.size)⟩
    · have HP := Lib.hid hp
      clear hv hp
      go_enter Try.func46, Try.ntmps46
      go_wp2_with (go_at_call 78; refine (paGood_any s _ hs).mono ?_; rintro e w' ⟨rfl, rfl⟩; rw [HP.out])
      go_ret2
      exact ⟨_, rfl, IRow.nil _ _, Below.refl _ _⟩
end Go.Proofs.Ytgajknnfmnnfeaa
