/- The model's cyMirror, MirrorForest. -/
import Derived.Test.YtgajknnfmnnfeaaTreesS
import Derived.Test.YtgajknnfmnnfeaaForNth
namespace Go.Proofs.Ytgajknnfmnnfeaa
open Go.RowKit
set_option linter.unusedVariables false
theorem enc_bd : ∀ (f : For), ∀ x ∈ f.enc, 0 ≤ x ∧ x ≤ f.size
  | For.nil, x, h => by simp [For.enc] at h
  | For.node c r, x, h => by
    rw [For.enc, List.mem_cons, List.mem_append] at h
    rw [For.size]
    rcases h with h | h | h
    · have := c.cnt_le; omega
    · have := enc_bd c x h; omega
    · have := enc_bd r x h; omega
theorem enc_get (f : For) (hf : f.size ≤ 16) (k : Nat) (hk : k < f.enc.length) : 0 ≤ f.enc.getD k 0 ∧ f.enc.getD k 0 ≤ 16 := by
  have := enc_bd f (f.enc.getD k 0) (by rw [List.getD_eq_getElem?_getD, List.getElem?_eq_getElem hk]; exact List.getElem_mem _)
  omega
set_option maxHeartbeats 2000000 in
theorem cyMirror_ret : ∀ (m : Nat) (f : For), f.size < m → m ≤ 17 → ∀ (v : Value) (w : World), RInts w v f.enc →
    Calls Try.prog 74 #[v] w (IntsNew w f.mir) := by
  intro m
  induction m with
  | zero => exact fun f hf => absurd hf (by omega)
  | succ m ih =>
  intro f hfm hm v w h
  obtain ⟨A0, cap, rfl⟩ := h.shape
  have hel := f.enc_length
  have hfc := f.cnt_le
  have HT : Hid (Calls Try.prog 67 #[.slice A0 f.enc.length cap] w (TabsNew w f.trs)) := Lib.hid (by
    rw [← trsL_of rfl]
    exact cyTrees_ret _ f.enc w h (fun k hk => enc_get f (by omega) k hk) (by omega))
  have htl := f.trs_length
  have HROW : Hid (∀ k, k < f.cnt → f.trs.getD k [] = ((f.nth k).cnt : Int) :: (f.nth k).enc) := Lib.hid f.trs_nth
  have HREC : Hid (∀ k, k < f.cnt → ∀ v1 w1, RInts w1 v1 (f.nth k).enc → Calls Try.prog 74 #[v1] w1 (IntsNew w1 (f.nth k).mir)) := Lib.hid fun k hk v1 w1 h1 => ih (f.nth k) (by have := f.nth_size k hk; omega) (by omega) v1 w1 h1
  have HSTEP : Hid (∀ k, k < f.cnt → (f.dropN k).mir = (f.dropN (k + 1)).mir ++ ((f.nth k).cnt : Int) :: (f.nth k).mir) := Lib.hid f.mir_step
  have HSZ := Lib.hid (fun k hk => f.nth_size k hk)
  have HML : Hid (∀ k, (f.nth k).mir.length = (f.nth k).size) := Lib.hid fun k => For.mir_length _
  have HNC : Hid (∀ k, (f.nth k).cnt ≤ (f.nth k).size) := Lib.hid fun k => For.cnt_le _
  have HNE : Hid (∀ k, (f.nth k).enc.length = (f.nth k).size) := Lib.hid fun k => For.enc_length _
  have H0 : Hid ((f.dropN f.cnt).mir = []) := Lib.hid (by rw [f.dropN_full]; rfl)
  have HF : Hid ((f.dropN 0).mir = f.mir) := Lib.hid (by cases f <;> rfl)
  have HDL : Hid (∀ k, k ≤ f.cnt → (f.dropN k).mir.length ≤ 17) := Lib.hid (by
    have : ∀ (g : For) k, (g.dropN k).size ≤ g.size := by
      intro g
      induction g with
      | nil => intro k; cases k <;> exact Nat.le_refl _
      | node c r _ ih2 => intro k; cases k with
        | zero => exact Nat.le_refl _
        | succ k => rw [For.dropN, For.size]; have := ih2 k; omega
    intro k _
    rw [For.mir_length]
    have := this f k
    omega)
  clear ih h
  rw [hel] at HT ⊢
  generalize hmm : (fun k => (f.dropN k).mir) = D at *
  have hD : ∀ k, (f.dropN k).mir = D k := fun k => by rw [← hmm]
  simp only [hD] at HSTEP H0 HF HDL
  clear hmm hD
  have hn16 : f.cnt ≤ 16 := by omega
  by_cases hc0 : f.cnt = 0
  · rw [hc0] at htl H0
    have : f.trs = [] := List.eq_nil_of_length_eq_zero htl
    rw [this] at HT
    rw [H0.out] at HF
    rw [← HF.out]
    clear htl
    go_enter Try.func74, Try.ntmps74
    go_wp2_with (go_at_call 67; refine HT.out.mono ?_; rintro e w1 ⟨v1, vs1, rfl, hr1, hb1⟩; obtain ⟨A1, c1, rfl⟩ := hr1.out.shape; rw [hr1.len])
    refine wp_loop_rounds 1 ?_; rw [rounds_succ]
    go_wp2_with fail
    go_ret
    exact ⟨_, rfl, IRow.nil _ _, hb1⟩
  · go_enter Try.func74, Try.ntmps74
    go_wp2_with (go_at_call 67; refine HT.out.mono ?_; rintro e w1 ⟨v1, vs1, rfl, hr1, hb1⟩; obtain ⟨g1, c1, rfl, hg1B, hg1, hcl1⟩ := hr1.form htl (by omega))
    have hbs1 := hb1.size
    go_loopw [3, 5] (fun vo i wr => ∃ k : Nat, k ≤ f.cnt ∧ i = .int .i64 ((k : Int) - 1) ∧ IRow wr w1.heap.size vo (D k) ∧ Below w1.heap.size w1 wr) (fun _ i _ => (intOf i + 1).toNat)
    case atStart => exact ⟨f.cnt, Nat.le_refl _, by go_num, by rw [H0.out]; exact IRow.nil _ _, Below.refl _ _⟩
    case round =>
      obtain ⟨k, hk, rfl, hrow, hb⟩ := hrel
      cases k with
      | zero =>
        have HR := Lib.hid (hrow.mono hbs1)
        have HB := Lib.hid (hb1.trans (hb.mono hbs1))
        rw [HF.out] at HR
        clear hrow hb hr1
        go_wp2_with fail
        go_ret
        exact ⟨_, rfl, HR.out, HB.out⟩
      | succ k =>
        have hrk := hr1.row k (by omega)
        rw [HROW.out k (by omega)] at hrk
        have hnk := HSZ.out k (by omega)
        obtain ⟨gk, ck, hvk, hgk1, hgk2, hck1, hck2⟩ := hrk.form (by simp)
        have hlk : (((f.nth k).cnt : Int) :: (f.nth k).enc).length = (f.nth k).size + 1 := by rw [List.length_cons, HNE.out]
        rw [hlk] at hvk hck1
        have E1N : Hid (∀ w2, Below w1.heap.size w1 w2 → w2.cell? ⟨g1, k, none⟩ = some (.slice (some ⟨gk, 0, none⟩) ((f.nth k).size + 1) ck)) := Lib.hid fun w2 h2 => by
          rw [← hvk]
          exact (h2.cell (p := ⟨g1, k, none⟩) hg1).trans (hcl1 k (by omega))
        rw [hvk] at hrk
        have HRC : Hid (∀ w2, Below w1.heap.size w1 w2 → ∀ A cc, cc ≤ maxLen → (f.nth k).size ≤ cc → (A = 1 ∨ (f.nth k).size = 0) → Calls Try.prog 74 #[.slice (some ⟨gk, A, none⟩) (f.nth k).size cc] w2 (IntsNew w2 (f.nth k).mir)) := Lib.hid fun w2 hb2 A cc h1 h2 hA => by
          refine HREC.out k (by omega) _ w2 ⟨⟨_, _, by rw [HNE.out]⟩, fun A' n' c' e => by injection e with e1 e2 e3; subst e2 e3; exact ⟨h2, h1⟩, fun hx => ⟨gk, A, cc, by rw [HNE.out], Nat.lt_of_lt_of_le hgk2 hb2.size, fun j hj => ?_⟩⟩
          rw [HNE.out] at hj
          rcases hA with rfl | h0
          · have h3 := hrk.cell (j := j + 1) (by rw [hlk]; omega)
            rw [List.getD_cons_succ] at h3
            rw [Nat.add_comm 1 j]
            exact (hb2.cell (p := ⟨gk, j + 1, none⟩) hgk2).trans h3
          · omega
        have e2 := hrk.cell (j := 0) (by simp)
        rw [List.getD_cons_zero] at e2
        have e2 := (hb.cell (p := ⟨gk, 0, none⟩) hgk2).trans e2
        have e1 := E1N.out wr hb
        have HST1 := Lib.hid (HSTEP.out k (by omega))
        have hdl := HDL.out (k + 1) (by omega)
        have hml : (f.nth k).mir.length ≤ 17 := by rw [HML.out k]; omega
        have hnc := HNC.out k
        have hbs := hb.size
        obtain ⟨A0', c0', rfl⟩ := hrow.shape
        clear hrk hvk hlk HROW HREC HSTEP HDL HML HNC HNE hr1 hcl1
        generalize (f.nth k).size = s at *
        generalize ((f.nth k).cnt : Int) = x at *
        by_cases h1 : ck = 1
        · have hs0 : s = 0 := by omega
          subst h1 hs0
          go_wp2_with (first
            | (at_builtin; refine wpList_push (.tmp 15) (.tmp 22) rfl rfl w1.heap.size _ (D (k + 1)) rfl hrow rfl (by omega) hbs ?_; intro v2 w2 hr2 hg2 hat2; have hb2 : Below w1.heap.size w1 w2 := hb.grown hg2 hbs (fun q hq => (hrow.blk q hq).1); have e3 := E1N.out w2 hb2; have hbs2 := hb2.size)
            | (go_at_call 74; refine (HRC.out w2 hb2 0 0 (by omega) (by omega) (by simp)).mono ?_; rintro e w3 ⟨v3, rfl, hr3, hb3⟩; have hr2b := hr2.below hb3; have hbs3 : w1.heap.size ≤ w3.heap.size := Nat.le_trans hbs2 hb3.size)
            | (at_builtin; refine wpList_extendR (.tmp 24) (.tmp 30) rfl rfl w1.heap.size _ _ _ (f.nth k).mir rfl hr2b rfl (RInts.of_row hr3) (by simp; omega) hbs3 ?_; intro v4 w4 hr4 hg4))
          have HB4 := Lib.hid ((hb2.trans (hb3.mono hbs2)).grown hg4 hbs3 (fun q hq => (hr2b.blk q hq).1))
          have HR4 := Lib.hid hr4
          clear hr2 hr2b hr3 hb3 hb2 hr4 hg4 hrow hb hg2 hat2
          go_roundw
          case rel => exact ⟨k, by omega, by go_num, by rw [HST1.out]; simpa using HR4.out, HB4.out⟩
          case measure => simp [intOf]
        · have i1 : (s : Int) + 1 ≤ (ck : Int) := by omega
          go_wp2_with (first
            | (at_builtin; refine wpList_push (.tmp 15) (.tmp 22) rfl rfl w1.heap.size _ (D (k + 1)) rfl hrow rfl (by omega) hbs ?_; intro v2 w2 hr2 hg2 hat2; have hb2 : Below w1.heap.size w1 w2 := hb.grown hg2 hbs (fun q hq => (hrow.blk q hq).1); have e3 := E1N.out w2 hb2; have hbs2 := hb2.size)
            | (go_at_call 74; refine (HRC.out w2 hb2 1 (ck - 1) (by omega) (by omega) (.inl rfl)).mono ?_; rintro e w3 ⟨v3, rfl, hr3, hb3⟩; have hr2b := hr2.below hb3; have hbs3 : w1.heap.size ≤ w3.heap.size := Nat.le_trans hbs2 hb3.size)
            | (at_builtin; refine wpList_extendR (.tmp 24) (.tmp 30) rfl rfl w1.heap.size _ _ _ (f.nth k).mir rfl hr2b rfl (RInts.of_row hr3) (by simp; omega) hbs3 ?_; intro v4 w4 hr4 hg4))
          have HB4 := Lib.hid ((hb2.trans (hb3.mono hbs2)).grown hg4 hbs3 (fun q hq => (hr2b.blk q hq).1))
          have HR4 := Lib.hid hr4
          clear hr2 hr2b hr3 hb3 hb2 hr4 hg4 hrow hb hg2 hat2
          go_roundw
          case rel => exact ⟨k, by omega, by go_num, by rw [HST1.out]; simpa using HR4.out, HB4.out⟩
          case measure => simp [intOf]
noncomputable def mirV (xs : List Int) : List Int := if h : forV xs = true then (forest_ex h).choose.mir else []
theorem mirV_len (xs : List Int) (hl : xs.length ≤ 1048576) : (mirV xs).length ≤ 1048577 := by
  unfold mirV
  split
  · rename_i h
    rw [For.mir_length, ← For.enc_length, (forest_ex h).choose_spec.1]
    omega
  · simp
theorem mirV_no {xs : List Int} (h : forV xs = false) : mirV xs = [] := by unfold mirV; rw [dif_neg (by rw [h]; simp)]
theorem specMirrorForest_ret (v : Value) (xs : List Int) (w : World) (h : RInts w v xs) (hl : xs.length ≤ 1048576) :
    Calls Try.prog 42 #[v] w (IntsRet w (forV xs) (mirV xs)) := by
  have HI := Lib.hid (cyIs_any v xs w h hl)
  rcases Bool.eq_false_or_eq_true (forV xs) with hv | hv
  · have hd : degB xs = true := by unfold forV at hv; rw [Bool.and_eq_true] at hv; exact hv.1
    have hn := (degB_of hd).1
    obtain ⟨hf, _⟩ := (forest_ex hv).choose_spec
    have e : mirV xs = (forest_ex hv).choose.mir := by unfold mirV; rw [dif_pos hv]
    rw [e]
    generalize (forest_ex hv).choose = f at *
    have hs := (For.cnt_enc_le hf).2
    have HP := Lib.hid (cyMirror_ret 17 f (by omega) (Nat.le_refl _) v w (by rw [hf]; exact h))
    rw [hv] at HI
    rw [hv]
    clear h hv hd e hn hf hs
    go_enter Try.func42, Try.ntmps42
    go_wp2_with (first | (go_at_call 66; refine HI.out.mono ?_; rintro e w' ⟨rfl, rfl⟩) | (go_at_call 74; refine HP.out.mono ?_; rintro e w1 ⟨v1, rfl, hr1, hb1⟩))
    go_ret2
    exact ⟨_, rfl, hr1, hb1⟩
  · rw [hv] at HI
    rw [mirV_no hv, hv]
    clear h hv
    go_enter Try.func42, Try.ntmps42
    go_wp2_with (go_at_call 66; refine HI.out.mono ?_; rintro e w' ⟨rfl, rfl⟩)
    go_ret2
    exact ⟨_, rfl, IRow.nil _ _, Below.refl _ _⟩
end Go.Proofs.Ytgajknnfmnnfeaa
