/- mirrored, the program's MirrorForest. -/
import Derived.Test.YtgajknnfmnnfeaaMirI
namespace Go.Proofs.Ytgajknnfmnnfeaa
open Go.RowKit
set_option linter.unusedVariables false
/-- what is told of the first k trees -/
def psl (f : For) : Nat → List (List Int)
  | 0 => []
  | k + 1 => psl f k ++ [(f.nth k).mir, [((f.nth k).cnt : Int)]]
theorem psl_length (f : For) : ∀ k, (psl f k).length = 2 * k
  | 0 => rfl
  | k + 1 => by rw [psl, List.length_append, psl_length f k]; simp; omega
theorem psl_rev (f : For) : ∀ k, k ≤ f.cnt → f.mir = (f.dropN k).mir ++ (psl f k).reverse.flatten
  | 0, _ => by cases f <;> simp [psl, For.dropN]
  | k + 1, h => by
    rw [psl_rev f k (by omega), f.mir_step k (by omega), psl]
    simp
theorem psl_full (f : For) : (psl f f.cnt).reverse.flatten = f.mir := by
  rw [psl_rev f f.cnt (Nat.le_refl _), f.dropN_full]
  simp [For.mir]
theorem VInts.rev {w w' : World} {B g n c : Nat} {vs : List Value} {pss : List (List Int)} (h : VInts w B (.slice (some ⟨g, 0, none⟩) n c) vs pss) (hr : VRow w' B (.slice (some ⟨g, 0, none⟩) n c) vs.reverse) (hg : w.grownBy w' (some g)) :
    LRows w' (.slice (some ⟨g, 0, none⟩) n c) pss.reverse := by
  have hl := h.len
  have hn := h.out.len
  rw [hl] at hn
  subst hn
  refine ⟨⟨_, _, by rw [List.length_reverse]⟩, fun hx => ?_⟩
  refine ⟨g, 0, c, by rw [List.length_reverse], (hr.blk g rfl).2, fun j hj => ⟨vs.reverse.getD j NilS, ?_, ?_⟩⟩
  · rw [Nat.zero_add]
    exact hr.cell (by simp at hj ⊢; omega)
  · rw [List.length_reverse] at hj
    have e1 : vs.reverse.getD j NilS = vs.getD (pss.length - 1 - j) NilS := by
      rw [List.getD_eq_getElem?_getD, List.getElem?_reverse (by omega), List.getD_eq_getElem?_getD, hl]
    have e2 : pss.reverse.getD j [] = pss.getD (pss.length - 1 - j) [] := by
      rw [List.getD_eq_getElem?_getD, List.getElem?_reverse (by omega), List.getD_eq_getElem?_getD]
    rw [e1, e2]
    exact (h.each _ (by omega)).apart hg (fun k hk e => h.off _ (by omega) g k rfl hk (by injection e with e; exact e.symm))
theorem mir_tail {w wr w1 w2 w3 : World} {A0 A2 : Option Addr} {c0 c2 n0 g q g1 n1 c1 : Nat} {vs cs : List Value} {pss : List (List Int)} {p : List Int} {x : Int} {v3 : Value} {t : TypeId}
    (hb : Below w.heap.size w wr) (hs1 : w.heap.size ≤ w1.heap.size) (hsz : w1.heap.size ≤ wr.heap.size) (hst : VInts wr w1.heap.size (.slice A0 n0 c0) vs pss)
    (hvr : VRow wr w.heap.size (.slice (some ⟨g1, 0, none⟩) n1 c1) cs) (hg1 : g1 < w1.heap.size) (hg : g < w.heap.size)
    (hr2 : IRow w2 wr.drew.heap.size (.slice A2 p.length c2) p) (hb2 : Below wr.drew.heap.size wr.drew w2)
    (hh : ∀ w1, Below w.heap.size w w1 → RInts w1 (.slice (some ⟨g, q, none⟩) 1 1) [x]) (cs2 : Array Value)
    (hr3 : VRow w3 w1.heap.size v3 (vs ++ [.slice A2 p.length c2, .slice (some ⟨g, q, none⟩) 1 1])) (hg3 : (w2.alloc (.cells cs2 t)).grownBy w3 (Value.slice A0 n0 c0).ownBlock)
    (hat3 : v3.ownBlock = (Value.slice A0 n0 c0).ownBlock ∨ ∃ g, v3.ownBlock = some g ∧ (w2.alloc (.cells cs2 t)).heap.size ≤ g) :
    VInts w3 w1.heap.size v3 (vs ++ [.slice A2 p.length c2, .slice (some ⟨g, q, none⟩) 1 1]) (pss ++ [p, [x]]) ∧ VRow w3 w.heap.size (.slice (some ⟨g1, 0, none⟩) n1 c1) cs ∧ Below w.heap.size w w3 ∧ w1.heap.size ≤ w3.heap.size := by
  have hg4 := grown_alloc_left hg3
  have hat4 := hat_alloc hat3
  have hd : wr.drew.heap.size = wr.heap.size := rfl
  have hst2 : VInts w2 w1.heap.size (.slice A0 n0 c0) vs pss := hst.drew.below hb2
  have hbs2 := hb2.size
  have hbw2 : Below w.heap.size w w2 := hb.drew.trans (hb2.mono hb.size)
  have hvb : ∀ y, (Value.slice A0 n0 c0).ownBlock = some y → w1.heap.size ≤ y ∧ y < wr.heap.size := hst.out.blk
  refine ⟨hst2.push2 (RInts.of_row hr2) (hh w2 hbw2) (fun y k hy hk => by have := (hvb y hy).2; have := (hr2.blk k hk).1; omega) (fun y k hy hk => by
      have h3 : some g = some k := hk
      injection h3 with h3
      have := (hvb y hy).1
      omega) (fun k hk => (hr2.blk k hk).2) (fun k hk => by
      have h3 : some g = some k := hk
      injection h3 with h3
      have := hb.size
      omega) hr3 hg4 hat4, ?_, hbw2.grown hg4 (by have := hb.size; omega) (fun y hy => by have := (hvb y hy).1; omega), by have := hg4.size; omega⟩
  exact (hvr.drew.below hb2).apart hg4 (fun k hk e => by
    have h3 : some g1 = some k := hk
    injection h3 with h3
    have := (hvb k e.symm).1
    omega)
set_option maxHeartbeats 2000000 in
theorem mirrored_ret : ∀ (m : Nat) (f : For), f.size < m → m ≤ 17 → ∀ (g o cap : Nat) (xs : List Int) (w : World), g < w.heap.size → (∀ j, j < xs.length → w.cell? ⟨g, o + j, none⟩ = some (.int .i64 (xs.getD j 0))) → xs.length ≤ cap ∧ cap ≤ maxLen → f.enc = xs →
    Calls Try.prog 75 #[.slice (some ⟨g, o, none⟩) xs.length cap] w (IntsNew w f.mir) := by
  intro m
  induction m with
  | zero => exact fun f hf => absurd hf (by omega)
  | succ m ih =>
  intro f hfm hm g o cap xs w hg hcells hcap hf
  have hfs := (For.cnt_enc_le hf).2
  have hfc := (For.cnt_enc_le hf).1
  have HT := Lib.hid (treesIn_any g o cap xs w hg hcells (by omega) hcap f hf)
  have hctl : ((f.tops 0).map (cutV g o)).length = f.cnt := by rw [List.length_map, f.tops_length 0]
  have HCUT : Hid (∀ k, k < f.cnt → ((f.tops 0).map (cutV g o)).getD k NilS = .slice (some ⟨g, o + f.start k, none⟩) ((f.nth k).size + 1) ((f.nth k).size + 1)) := Lib.hid fun k hk => by
    have := f.tops_nth 0 k hk
    rw [List.getD_eq_getElem?_getD, List.getElem?_map, List.getElem?_eq_getElem (by rw [f.tops_length 0]; exact hk)]
    rw [List.getD_eq_getElem?_getD, List.getElem?_eq_getElem (by rw [f.tops_length 0]; exact hk)] at this
    simp only [Option.getD_some] at this
    simp only [Option.map_some, Option.getD_some, this, cutV, Nat.zero_add]
    rw [show f.start k + 1 + (f.nth k).size - f.start k = (f.nth k).size + 1 by omega]
  have HREC : Hid (∀ k, k < f.cnt → ∀ w1 A, Below w.heap.size w w1 → (A = o + f.start k + 1 ∨ (f.nth k).size = 0) → Calls Try.prog 75 #[.slice (some ⟨g, A, none⟩) (f.nth k).size (f.nth k).size] w1 (IntsNew w1 (f.nth k).mir)) := Lib.hid fun k hk w1 A hb hA => by
    have hns := f.nth_size k hk
    have hl : (f.nth k).enc.length = (f.nth k).size := For.enc_length _
    have r := ih (f.nth k) (by omega) (by omega) g A (f.nth k).size (f.nth k).enc w1 (Nat.lt_of_lt_of_le hg hb.size) (fun j hj => by
      rw [hl] at hj
      rcases hA with rfl | h0
      · have h1 := hcells (f.start k + 1 + j) (by omega)
        have h2 : (f.nth k).enc.getD j 0 = xs.getD (f.start k + 1 + j) 0 := by
          rw [← f.nth_enc k hk, hf, List.getD_eq_getElem?_getD, List.getElem?_take, if_pos hj, List.getElem?_drop, ← List.getD_eq_getElem?_getD]
        rw [h2, show o + f.start k + 1 + j = o + (f.start k + 1 + j) by omega]
        exact (hb.cell (p := ⟨g, o + (f.start k + 1 + j), none⟩) hg).trans h1
      · omega) ⟨by omega, by have := hcap.2; omega⟩ rfl
    rwa [hl] at r
  have HHD : Hid (∀ k, k < f.cnt → ∀ w1, Below w.heap.size w w1 → RInts w1 (.slice (some ⟨g, o + f.start k, none⟩) 1 1) [((f.nth k).cnt : Int)]) := Lib.hid fun k hk w1 hb => by
    have hns := f.nth_size k hk
    have hp := f.nth_part k hk
    refine RInts.part (c := cap) (f.start k) 1 1 (Nat.lt_of_lt_of_le hg hb.size) (fun i hi => (hb.cell (p := ⟨g, o + i, none⟩) hg).trans (hcells i hi)) _ ?_ (by omega) (Nat.le_refl _) (by have := hcap.2; omega)
    have := congrArg (List.take 1) hp
    rw [List.take_take, hf] at this
    simpa using this.symm
  have HJ : Hid (∀ w1 v, LRows w1 v (psl f f.cnt).reverse → Calls Try.prog 65 #[v] w1 (IntsNew w1 f.mir)) := Lib.hid fun w1 v h => by
    have r := joinLists_any v _ w1 h (by rw [List.length_reverse, psl_length]; omega) (by rw [psl_full, f.mir_length]; omega)
    rwa [psl_full] at r
  have HN := Lib.hid (fun k hk => f.nth_size k hk)
  have HST : Hid (∀ k, psl f (k + 1) = psl f k ++ [(f.nth k).mir, [((f.nth k).cnt : Int)]]) := Lib.hid fun _ => rfl
  have HSL := Lib.hid (psl_length f)
  clear ih hcells
  generalize hcs : (f.tops 0).map (cutV g o) = cs at *
  clear hcs
  by_cases hc0 : f.cnt = 0
  · rw [hc0] at HJ hctl
    have hcs0 : cs = [] := List.eq_nil_of_length_eq_zero hctl
    subst hcs0
    have H0 : Hid ((psl f 0).reverse = []) := Lib.hid rfl
    rw [H0.out] at HJ
    clear hctl
    go_enter Try.func75, Try.ntmps75
    go_wp2_with (go_at_call 68; refine HT.out.mono ?_; rintro e w1 ⟨v1, rfl, hr1, hb1⟩; obtain ⟨A1, c1, rfl⟩ := hr1.shape)
    refine wp_loop_rounds 1 ?_; rw [rounds_succ]
    go_wp2_with (first | (go_at_call 100; refine (revV_nil _).mono ?_; rintro e w' ⟨rfl, rfl⟩) | (go_at_call 65; refine (HJ.out _ _ ⟨⟨_, _, rfl⟩, fun h => absurd h (by simp)⟩).mono ?_; rintro e w2 ⟨v2, rfl, hr2, hb2⟩))
    go_ret
    exact ⟨_, rfl, hr2.mono hb1.size, hb1.trans (hb2.mono hb1.size)⟩
  · go_enter Try.func75, Try.ntmps75
    go_wp2_with (go_at_call 68; refine HT.out.mono ?_; rintro e w1 ⟨v1, rfl, hr1, hb1⟩; obtain ⟨g1, c1, rfl, hg1B, hg1, _⟩ := hr1.form hctl (by omega))
    have hbs1 := hb1.size
    go_loopw [3, 5, 9] (fun vp q i wr => ∃ (k : Nat) (vs : List Value), k ≤ f.cnt ∧ i = .int .i64 (k : Int) ∧ VInts wr w1.heap.size vp vs (psl f k) ∧ VRow wr w.heap.size (.slice (some ⟨g1, 0, none⟩) f.cnt c1) cs ∧ Below w.heap.size w wr ∧ w1.heap.size ≤ wr.heap.size) (fun _ _ i _ => f.cnt - (intOf i).toNat)
    case atStart => exact ⟨0, [], by omega, rfl, ⟨rfl, VRow.nil _ _, (fun j hj => absurd hj (by simp [psl])), (fun j hj => absurd hj (by simp [psl])), (fun j hj => absurd hj (by simp [psl]))⟩, hr1, hb1, Nat.le_refl _⟩
    case round =>
      obtain ⟨k, vs, hk, rfl, hst, hvr, hb, hsz⟩ := hrel
      clear hr1 hb1
      by_cases hlt : k < f.cnt
      · have e1 := hvr.cell (j := k) (by omega)
        rw [HCUT.out k hlt] at e1
        have HR1 := Lib.hid (HREC.out k hlt)
        have HH1 := Lib.hid (HHD.out k hlt)
        have HST1 := Lib.hid (HST.out k)
        have hsl := HSL.out k
        have hnk := HN.out k hlt
        have hvl : vs.length ≤ 64 := by rw [hst.len]; omega
        have HSTV := Lib.hid hst
        obtain ⟨A0, c0, rfl⟩ := hst.out.shape
        generalize (f.nth k).size = s at *
        generalize (f.nth k).mir = p at *
        generalize ((f.nth k).cnt : Int) = x at *
        have hbd : Below w.heap.size w wr.drew := hb.drew
        clear hsl hst
        by_cases h0 : s = 0
        · subst h0
          go_wp2_with fail
          go_region_law (first
            | (go_simp; go_at_call 75; refine (HR1.out wr.drew (o + f.start k) hbd (by simp)).mono ?_; rintro e w2 ⟨v2, rfl, hr2, hb2⟩; obtain ⟨A2, c2, rfl⟩ := hr2.shape; have hst2 := HSTV.out.drew.below hb2)
            | (refine step_push2V (.tmp 13) (.tmp 19) rfl rfl w1.heap.size _ vs (by rfl) (hst2.out.alloc _) w2.heap.size _ _ (by rfl) (by simp; rfl) (by simp; rfl) rfl rfl (by omega) (by simp; have := hb2.size; simp at this; omega) ?_; intro v3 w3 hr3 hg3 hat3))
          all_goals (have HTL := Lib.hid (mir_tail hb hbs1 hsz HSTV.out hvr hg1 hg hr2 hb2 HH1.out _ hr3 hg3 hat3); rw [← HST1.out] at HTL; clear hst2 hr3 hg3 hat3 hr2 hb2)
          all_goals (try go_wp2_with fail)
          all_goals first
            | exact ⟨⟨k + 1, _, by omega, by go_num, HTL.out⟩, by simp [intOf]; omega⟩
            | (go_roundw <;> first | exact ⟨k + 1, _, by omega, by go_num, HTL.out⟩ | (simp [intOf]; omega))
        · have h0' : ¬ s + 1 = 1 := by omega
          have h0'' : (1 : Int) ≤ (s : Int) + 1 := by omega
          go_wp2_with fail
          go_region_law (first
            | (go_simp; go_at_call 75; refine (HR1.out wr.drew (o + f.start k + 1) hbd (.inl rfl)).mono ?_; rintro e w2 ⟨v2, rfl, hr2, hb2⟩; obtain ⟨A2, c2, rfl⟩ := hr2.shape; have hst2 := HSTV.out.drew.below hb2)
            | (refine step_push2V (.tmp 13) (.tmp 19) rfl rfl w1.heap.size _ vs (by rfl) (hst2.out.alloc _) w2.heap.size _ _ (by rfl) (by simp; rfl) (by simp; rfl) rfl rfl (by omega) (by simp; have := hb2.size; simp at this; omega) ?_; intro v3 w3 hr3 hg3 hat3))
          all_goals (have HTL := Lib.hid (mir_tail hb hbs1 hsz HSTV.out hvr hg1 hg hr2 hb2 HH1.out _ hr3 hg3 hat3); rw [← HST1.out] at HTL; clear hst2 hr3 hg3 hat3 hr2 hb2)
          all_goals (try go_wp2_with fail)
          all_goals first
            | exact ⟨⟨k + 1, _, by omega, by go_num, HTL.out⟩, by simp [intOf]; omega⟩
            | (go_roundw <;> first | exact ⟨k + 1, _, by omega, by go_num, HTL.out⟩ | (simp [intOf]; omega))
      · have hk2 : k = f.cnt := by omega
        subst hk2
        have hl2 : (psl f f.cnt).length = 2 * f.cnt := HSL.out f.cnt
        obtain ⟨g4, c4, rfl, _, hg4s, _⟩ := hst.out.form (hst.len.trans hl2) (by omega)
        have HRV := Lib.hid (revV_any g4 c4 _ _ vs wr hst.out (by omega) (fun j hj => by
          obtain ⟨A, c, e⟩ := (hst.each j (by rw [← hst.len]; exact hj)).shape
          exact ⟨A, _, c, e⟩))
        have HLR : Hid (∀ w2, VRow w2 w1.heap.size (.slice (some ⟨g4, 0, none⟩) (2 * f.cnt) c4) vs.reverse → wr.grownBy w2 (some g4) → Calls Try.prog 65 #[.slice (some ⟨g4, 0, none⟩) (2 * f.cnt) c4] w2 (IntsNew w2 f.mir)) := Lib.hid fun w2 h1 h2 => HJ.out w2 _ (hst.rev h1 h2)
        have hg4B := (hst.out.blk g4 rfl).1
        have HB := Lib.hid hb
        clear hst hvr hb
        generalize 2 * f.cnt = n2 at *
        go_wp2_with (first
          | (go_at_call 100; refine HRV.out.mono ?_; rintro e w2 ⟨rfl, hr2, hg2⟩)
          | (go_at_call 65; refine (HLR.out w2 hr2 hg2).mono ?_; rintro e w3 ⟨v3, rfl, hr3, hb3⟩))
        go_ret
        have hb := HB.out
        have hb2 : Below w.heap.size w w2 := hb.grown hg2 hb.size (fun q hq => by injection hq with hq; omega)
        exact ⟨_, rfl, hr3.mono hb2.size, hb2.trans (hb3.mono hb2.size)⟩
theorem mirrorForest_ret (v : Value) (xs : List Int) (w : World) (h : RInts w v xs) (hl : xs.length ≤ 1048576) :
    Calls Try.prog 43 #[v] w (IntsRet w (forV xs) (mirV xs)) := by
  obtain ⟨A, cap, rfl⟩ := h.shape
  have HI := Lib.hid (isForest_any _ xs w h hl)
  rcases Bool.eq_false_or_eq_true (forV xs) with hv | hv
  · have hd : degB xs = true := by unfold forV at hv; rw [Bool.and_eq_true] at hv; exact hv.1
    have hn := (degB_of hd).1
    obtain ⟨hc, hm⟩ := h.room _ _ _ rfl
    obtain ⟨g, o, rfl, hg, hcells⟩ := degB_cells h hd
    obtain ⟨hf, _⟩ := (forest_ex hv).choose_spec
    have e : mirV xs = (forest_ex hv).choose.mir := by unfold mirV; rw [dif_pos hv]
    rw [e]
    generalize (forest_ex hv).choose = f at *
    have hs := (For.cnt_enc_le hf).2
    have HP := Lib.hid (mirrored_ret 17 f (by omega) (Nat.le_refl _) g o cap xs w hg hcells ⟨hc, hm⟩ hf)
    rw [hv] at HI
    rw [hv]
    clear h hv hd e hn hf hs hcells
    go_enter Try.func43, Try.ntmps43
    go_wp2_with (first | (go_at_call 26; refine HI.out.mono ?_; rintro e w' ⟨rfl, rfl⟩) | (go_at_call 75; refine HP.out.mono ?_; rintro e w1 ⟨v1, rfl, hr1, hb1⟩))
    go_ret2
    exact ⟨_, rfl, hr1, hb1⟩
  · rw [hv] at HI
    rw [mirV_no hv, hv]
    clear h hv
    go_enter Try.func43, Try.ntmps43
    go_wp2_with (go_at_call 26; refine HI.out.mono ?_; rintro e w' ⟨rfl, rfl⟩)
    go_ret2
    exact ⟨_, rfl, IRow.nil _ _, Below.refl _ _⟩
end Go.Proofs.Ytgajknnfmnnfeaa
