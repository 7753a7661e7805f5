/- The program's TreesOf: the parts are cloned, one after the other. -/
import Derived.Test.YtgajknnfmnnfeaaTreesI
import Derived.Test.YtgajknnfmnnfeaaTreesS
import Derived.Test.YtgajknnfmnnfeaaFirstI
namespace Go.Proofs.Ytgajknnfmnnfeaa
open Go.RowKit
set_option linter.unusedVariables false
theorem getD_set {α : Type} (l : List α) (i j : Nat) (u d : α) (hi : i < l.length) : (l.set i u).getD j d = if i = j then u else l.getD j d := by
  rw [List.getD_eq_getElem?_getD, List.getElem?_set]
  by_cases e : i = j
  · rw [if_pos e, if_pos e, if_pos hi]; rfl
  · rw [if_neg e, if_neg e, ← List.getD_eq_getElem?_getD]
/-- the first k of the values are rows of the call's own, the others are as they were -/
structure TPart (w : World) (B M : Nat) (v : Value) (vs cs : List Value) (xss : List (List Int)) (k : Nat) : Prop where
  len : vs.length = xss.length
  out : VRow w B v vs
  outM : ∀ q, v.ownBlock = some q → q < M
  row : ∀ j, j < k → IRow w B (vs.getD j NilS) (xss.getD j [])
  rowM : ∀ j, j < k → ∀ q, (vs.getD j NilS).ownBlock = some q → q < M
  apart : ∀ i j, i < k → j < k → i ≠ j → ∀ a b, (vs.getD i NilS).ownBlock = some a → (vs.getD j NilS).ownBlock = some b → a ≠ b
  off : ∀ j, j < k → ∀ a b, v.ownBlock = some a → (vs.getD j NilS).ownBlock = some b → a ≠ b
  rest : ∀ j, k ≤ j → j < xss.length → vs.getD j NilS = cs.getD j NilS
  size : M ≤ w.heap.size
theorem TPart.full {w : World} {B M : Nat} {v : Value} {vs cs : List Value} {xss : List (List Int)} (h : TPart w B M v vs cs xss xss.length) : TRow w B M v vs xss :=
  ⟨h.len, h.out, h.outM, h.row, h.rowM, h.apart, h.off, h.size⟩
theorem TPart.next {w w1 : World} {B M g n c : Nat} {vs cs : List Value} {xss : List (List Int)} {k : Nat} {u : Value} (h : TPart w B M (.slice (some ⟨g, 0, none⟩) n c) vs cs xss k) (hk : k < xss.length) (hB : B ≤ w.heap.size)
    (hu : IRow w1 w.heap.size u (xss.getD k [])) (hb : Below w.heap.size w w1) :
    TPart (w1.setCell ⟨g, k, none⟩ u) B w1.heap.size (.slice (some ⟨g, 0, none⟩) n c) (vs.set k u) cs xss (k + 1) := by
  have hst := (h.out.below hb).set k u
  have hgM := h.outM g rfl
  have hsz := h.size
  have hl := h.len
  have hbs := hb.size
  have gd : ∀ j, (vs.set k u).getD j NilS = if k = j then u else vs.getD j NilS := fun j => getD_set vs k j u NilS (by omega)
  have hub : ∀ q, u.ownBlock = some q → w.heap.size ≤ q ∧ q < w1.heap.size := hu.blk
  have kr : ∀ j, j < k → IRow (w1.setCell ⟨g, k, none⟩ u) B (vs.getD j NilS) (xss.getD j []) := fun j hj => World.ownsRow.kept ((h.row j hj).below hb) hst.2 (by
    cases e : (vs.getD j NilS).ownBlock with
    | none => exact .inl rfl
    | some q => exact .inr (fun e2 => h.off j hj g q rfl e (by injection e2 with e2; exact e2.symm)))
  have ku0 : IRow (w1.setCell ⟨g, k, none⟩ u) w.heap.size u (xss.getD k []) := World.ownsRow.kept hu hst.2 (by
    cases e : u.ownBlock with
    | none => exact .inl rfl
    | some q => exact .inr (fun e2 => by have := (hub q e).1; injection e2 with e2; omega))
  have ku : IRow (w1.setCell ⟨g, k, none⟩ u) B u (xss.getD k []) := ku0.mono hB
  refine ⟨by rw [List.length_set]; exact hl, hst.1, fun q hq => by have : some g = some q := hq; injection this with this; omega, fun j hj => ?_, fun j hj q hq => ?_, fun i j hi hj hne a b ha hb2 => ?_, fun j hj a b ha hb2 => ?_, fun j hj hj2 => ?_, by simp [World.setCell]⟩
  · rw [gd]
    by_cases e : k = j
    · rw [if_pos e, ← e]; exact ku
    · rw [if_neg e]; exact kr j (by omega)
  · rw [gd] at hq
    by_cases e : k = j
    · rw [if_pos e] at hq; exact (hub q hq).2
    · rw [if_neg e] at hq; have := h.rowM j (by omega) q hq; omega
  · rw [gd] at ha hb2
    by_cases e1 : k = i <;> by_cases e2 : k = j
    · omega
    · rw [if_pos e1] at ha; rw [if_neg e2] at hb2
      have := (hub a ha).1; have := h.rowM j (by omega) b hb2; omega
    · rw [if_neg e1] at ha; rw [if_pos e2] at hb2
      have := (hub b hb2).1; have := h.rowM i (by omega) a ha; omega
    · rw [if_neg e1] at ha; rw [if_neg e2] at hb2
      exact h.apart i j (by omega) (by omega) hne a b ha hb2
  · rw [gd] at hb2
    have ha2 : some g = some a := ha
    injection ha2 with ha2
    by_cases e : k = j
    · rw [if_pos e] at hb2; have := (hub b hb2).1; omega
    · rw [if_neg e] at hb2; exact h.off j (by omega) a b ha hb2
  · rw [gd, if_neg (by omega)]
    exact h.rest j (by omega) hj2
theorem tops_get (f : For) (j : Nat) (hj : j < f.cnt) : (((f.tops 0).getD j (0, 0)).1 + (((f.tops 0).getD j (0, 0)).2 - ((f.tops 0).getD j (0, 0)).1) ≤ f.enc.length) ∧ f.trs.getD j [] = (f.enc.drop ((f.tops 0).getD j (0, 0)).1).take (((f.tops 0).getD j (0, 0)).2 - ((f.tops 0).getD j (0, 0)).1) := by
  have e := tops_trs f [] []
  simp only [List.nil_append, List.append_nil, List.length_nil] at e
  have hl := f.tops_length 0
  have h2 : f.trs.getD j [] = (f.enc.drop ((f.tops 0).getD j (0, 0)).1).take (((f.tops 0).getD j (0, 0)).2 - ((f.tops 0).getD j (0, 0)).1) := by
    rw [← e, List.getD_eq_getElem?_getD, List.getElem?_map, List.getElem?_eq_getElem (by omega), List.getD_eq_getElem?_getD, List.getElem?_eq_getElem (by omega)]
    rfl
  refine ⟨?_, h2⟩
  have hb := tops_bd f 0 ((f.tops 0).getD j (0, 0)) (by rw [List.getD_eq_getElem?_getD, List.getElem?_eq_getElem (by omega)]; exact List.getElem_mem _)
  rw [f.enc_length]
  omega
theorem trs_pos : ∀ (f : For), ∀ t ∈ f.trs, 1 ≤ t.length
  | For.nil, t, h => by simp [For.trs] at h
  | For.node c r, t, h => by
    rw [For.trs, List.mem_cons] at h
    rcases h with rfl | h
    · simp
    · exact trs_pos r t h
set_option maxHeartbeats 1600000 in
theorem treesOf_ret (v : Value) (xs : List Int) (w : World) (h : RInts w v xs) (hl : xs.length ≤ 1048576) :
    Calls Try.prog 34 #[v] w (TabsRet w (forV xs) (trsV xs)) := by
  obtain ⟨A, cap, rfl⟩ := h.shape
  have HF := Lib.hid (isForest_any _ xs w h hl)
  rcases Bool.eq_false_or_eq_true (forV xs) with hv | hv
  · have hd : degB xs = true := by unfold forV at hv; rw [Bool.and_eq_true] at hv; exact hv.1
    obtain ⟨f, hf, _⟩ := forest_ex hv
    obtain ⟨hc, hm⟩ := h.room _ _ _ rfl
    obtain ⟨g, o, rfl, hg, hcells⟩ := degB_cells h hd
    have HT := Lib.hid (treesIn_any g o cap xs w hg hcells hl ⟨hc, hm⟩ f hf)
    have hn := (degB_of hd).1
    have htl := f.trs_length
    have hcl : f.cnt ≤ 16 := by have := f.cnt_le; rw [← f.enc_length, hf] at this; omega
    have hcp : 0 < f.cnt := by
      rcases Nat.eq_zero_or_pos f.cnt with h0 | h0
      · have := For.cnt_zero h0; subst this; rw [For.enc] at hf; rw [← hf] at hn; simp at hn
      · exact h0
    have e : trsV xs = f.trs := by unfold trsV; rw [if_pos hv, trsL_of hf]
    have hctl : ((f.tops 0).map (cutV g o)).length = f.cnt := by rw [List.length_map, f.tops_length 0]
    have HCUT : Hid (∀ j, j < f.cnt → ∃ st n, ((f.tops 0).map (cutV g o)).getD j NilS = .slice (some ⟨g, o + st, none⟩) n n ∧ (f.trs.getD j []).length = n ∧ n ≤ 16 ∧ ∀ w1, Below w.heap.size w w1 → RInts w1 (.slice (some ⟨g, o + st, none⟩) n n) (f.trs.getD j [])) := Lib.hid fun j hj => by
      obtain ⟨t1, t2⟩ := tops_get f j hj
      have hg2 : ((f.tops 0).map (cutV g o)).getD j NilS = cutV g o ((f.tops 0).getD j (0, 0)) := by
        rw [List.getD_eq_getElem?_getD, List.getElem?_map, List.getElem?_eq_getElem (by rw [f.tops_length 0]; exact hj), List.getD_eq_getElem?_getD, List.getElem?_eq_getElem (by rw [f.tops_length 0]; exact hj)]
        rfl
      rw [hf] at t1 t2
      refine ⟨_, _, hg2, by rw [t2, List.length_take, List.length_drop]; omega, by omega, fun w1 hb => ?_⟩
      exact RInts.part (c := cap) _ _ _ (Nat.lt_of_lt_of_le hg hb.size) (fun i hi => (hb.cell (p := ⟨g, o + i, none⟩) hg).trans (hcells i hi)) _ t2 t1 (Nat.le_refl _) (by omega)
    rw [hv, e]
    rw [hv] at HF
    clear h hcells hv hd e
    generalize hcs : (f.tops 0).map (cutV g o) = cs at *
    clear hcs
    go_enter Try.func34, Try.ntmps34
    go_wp2_with (first | (go_at_call 26; refine HF.out.mono ?_; rintro e w' ⟨rfl, rfl⟩) | (go_at_call 68; refine HT.out.mono ?_; rintro e w1 ⟨v1, rfl, hr1, hb1⟩; obtain ⟨g1, c1, rfl, hg1B, hg1, _⟩ := hr1.form hctl hcp))
    go_loopw [7, 8, 20] (fun q1 q2 i wr => ∃ (k M : Nat) (vs : List Value), k ≤ f.cnt ∧ i = .int .i64 (k : Int) ∧ TPart wr w.heap.size M (.slice (some ⟨g1, 0, none⟩) f.cnt c1) vs cs f.trs k ∧ Below w.heap.size w wr) (fun _ _ i _ => f.cnt - (intOf i).toNat)
    case atStart =>
      exact ⟨0, w1.heap.size, cs, by omega, rfl, ⟨by omega, hr1, fun q hq => (hr1.blk q hq).2, fun j hj => absurd hj (by omega), fun j hj => absurd hj (by omega), fun i j hi => absurd hi (by omega), fun j hj => absurd hj (by omega), fun j _ _ => rfl, Nat.le_refl _⟩, hb1⟩
    case round =>
      obtain ⟨k, M, vs, hk, rfl, hp, hb⟩ := hrel
      clear hr1 hb1
      by_cases hlt : k < f.cnt
      · obtain ⟨st, n, p1, p2, p4, p3⟩ := HCUT.out k hlt
        subst p2
        have e1 := hp.out.cell (j := k) (by rw [hp.len]; omega)
        rw [hp.rest k (Nat.le_refl _) (by omega), p1] at e1
        have hbs := hb.size
        have HCL : Hid (Calls Try.prog 69 #[.slice (some ⟨g, o + st, none⟩) (f.trs.getD k []).length (f.trs.getD k []).length] wr (IntsNew wr (f.trs.getD k []))) := Lib.hid (cloneI_any _ _ wr (p3 wr hb) (by omega))
        have HP := Lib.hid hp
        have HNX : Hid (∀ w2 u, IRow w2 wr.heap.size u (f.trs.getD k []) → Below wr.heap.size wr w2 → TPart (w2.setCell ⟨g1, k, none⟩ u) w.heap.size w2.heap.size (.slice (some ⟨g1, 0, none⟩) f.cnt c1) (vs.set k u) cs f.trs (k + 1)) := Lib.hid fun w2 u h1 h2 => HP.out.next (by omega) hbs h1 h2
        have HFR : Hid (∀ w2, Below wr.heap.size wr w2 → w2.cell? ⟨g1, k, none⟩ = some (.slice (some ⟨g, o + st, none⟩) (f.trs.getD k []).length (f.trs.getD k []).length) ∧ w2.frozen? ⟨g1, k, none⟩ = false) := Lib.hid fun w2 h2 => ⟨(h2.cell (p := ⟨g1, k, none⟩) (HP.out.out.blk g1 rfl).2).trans e1, (HP.out.out.below h2).free k⟩
        generalize f.trs.getD k [] = t at *
        clear hp p1 p3
        go_wp2_with (go_at_call 69; refine HCL.out.mono ?_; rintro e w2 ⟨u, rfl, hu, hb2⟩; obtain ⟨A2, c2, rfl⟩ := hu.shape; obtain ⟨e2, f2⟩ := HFR.out w2 hb2)
        have HN := Lib.hid (HNX.out w2 _ hu hb2)
        have HB2 := Lib.hid ((hb.trans (hb2.mono hbs)).setCell (p := ⟨g1, k, none⟩) (show w.heap.size ≤ g1 from hg1B) (.slice A2 t.length c2))
        clear hu hb2 hb
        go_roundw
        case rel => exact ⟨k + 1, w2.heap.size, _, by omega, by go_num, HN.out, HB2.out⟩
        case measure => first | (simp [intOf]; done) | (simp [intOf]; omega)
      · have hk2 : k = f.cnt := by omega
        subst hk2
        have HP := Lib.hid hp
        clear hp
        go_wp2_with fail
        go_ret2
        have hh := HP.out
        rw [← htl] at hh
        have r := hh.full
        rw [htl] at r
        exact ⟨_, vs, rfl, r.mono (Nat.le_refl _) r.size (Nat.le_refl _), hb⟩
  · have e : trsV xs = [] := by unfold trsV; rw [hv]; rfl
    rw [hv, e]
    rw [hv] at HF
    clear h hv e
    go_enter Try.func34, Try.ntmps34
    go_wp2_with (go_at_call 26; refine HF.out.mono ?_; rintro e w' ⟨rfl, rfl⟩)
    go_ret2
    exact ⟨_, [], rfl, TRow.nil (Nat.le_refl _), Below.refl _ _⟩
end Go.Proofs.Ytgajknnfmnnfeaa
