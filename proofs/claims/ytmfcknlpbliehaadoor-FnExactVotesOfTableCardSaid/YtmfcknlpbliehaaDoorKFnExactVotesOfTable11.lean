/- Pack 11 of what FnExactVotesOfTable needs: MatIn, VoMath. -/
import Derived.Test.YtmfcknlpbliehaaDoorKFnExactVotesOfTable10
/- The laws' own words on slices of slices of ints that come in: sizes, copies. -/
namespace Go.Proofs.YtmfcknlpbliehaaDoor
open Go.RowKit
set_option linter.unusedVariables false
/-- what szIntSS leaves -/
def szR : Int → List (List Int) → Int
  | l, [] => l
  | l, r :: rs => if l - (r.length : Int) < 0 then -1 else szR (l - r.length) rs
def szT (left : Int) (xss : List (List Int)) : Int := if left - (xss.length : Int) < 0 then -1 else szR (left - xss.length) xss
theorem szR_ok : ∀ (xss : List (List Int)) (l : Int), 0 ≤ l → 0 ≤ szR l xss → ((xss.flatten.length : Nat) : Int) ≤ l ∧ ∀ r ∈ xss, (r.length : Int) ≤ l
  | [], l, h0, _ => ⟨by simpa using h0, fun r hr => by cases hr⟩
  | r :: rs, l, h0, h => by
    rw [szR] at h
    split at h
    · omega
    · obtain ⟨h1, h2⟩ := szR_ok rs _ (by omega) h
      rw [List.flatten_cons, List.length_append]
      refine ⟨by omega, fun q hq => ?_⟩
      rcases List.mem_cons.1 hq with rfl | hq
      · omega
      · have := h2 q hq
        omega
theorem szT_ok {left : Int} {xss : List (List Int)} (h0 : 0 ≤ left ∧ left ≤ 1048576) (h : ¬ szT left xss < 0) : xss.length ≤ 1048576 ∧ xss.flatten.length ≤ 1048576 ∧ ∀ k, k < xss.length → (xss.getD k []).length ≤ 1048576 := by
  unfold szT at h
  by_cases hq : left - (xss.length : Int) < 0
  · rw [if_pos hq] at h
    omega
  · rw [if_neg hq] at h
    obtain ⟨h1, h2⟩ := szR_ok xss (left - (xss.length : Int)) (by omega) (by omega)
    refine ⟨by omega, by omega, fun k hk => ?_⟩
    have := h2 (xss.getD k []) (by rw [List.getD_eq_getElem?_getD, List.getElem?_eq_getElem hk]; exact List.getElem_mem hk)
    omega
set_option maxRecDepth 100000 in
set_option maxHeartbeats 2000000 in
theorem szIntSS_any (v : Value) (xss : List (List Int)) (left : Int) (w : World) (h : MRows w v xss) (hl : ∀ k, k < xss.length → (xss.getD k []).length ≤ maxLen) (h0 : 0 ≤ left ∧ left ≤ 1048576) :
    Calls Tryd.prog 7 #[v, .int .i64 left] w fun e w' => e = .returned (.int .i64 (szT left xss)) ∧ w = w' := by
  have H := Lib.hid h
  have HLm := Lib.hid hl
  obtain ⟨A, c, rfl⟩ := h.rows.shape
  obtain ⟨m1, m2⟩ := h.room _ _ _ rfl
  have m3 : maxLen ≤ 9223372036854775807 := by simp [maxLen]
  have h2 : (xss.length : Int) ≤ 9223372036854775807 := by omega
  have HT : Hid (szT left xss = if left - (xss.length : Int) < 0 then -1 else szR (left - xss.length) (xss.drop 0)) := Lib.hid rfl
  obtain ⟨n, hn⟩ : ∃ n, xss.length = n := ⟨_, rfl⟩
  have HNL := Lib.hid hn
  have h1 : 0 ≤ (n : Int) := by omega
  rw [hn] at h2 HT ⊢
  rw [hn] at H
  have hl0 := h0.1
  have hl1 := h0.2
  clear h hl m1 m2 m3 hn h0
  generalize szT left xss = T at *
  by_cases hq : left - (n : Int) < 0
  · rw [if_pos hq] at HT
    rw [HT.out]
    go_enter Tryd.func7, Tryd.ntmps7
    go_wp2
    go_ret
    exact ⟨rfl, rfl⟩
  · rw [if_neg hq] at HT
    go_enter Tryd.func7, Tryd.ntmps7
    go_wp2_with fail
    go_loopw [1, 5] (fun q i wr => ∃ (k : Nat) (l : Int), k ≤ n ∧ i = .int .i64 (k : Int) ∧ q = .int .i64 l ∧ 0 ≤ l ∧ l ≤ 1048576 ∧ szR l (xss.drop k) = T ∧ wr = w) (fun _ i _ => n - (intOf i).toNat)
    case atStart => exact ⟨0, left - n, Nat.zero_le _, rfl, rfl, by omega, by omega, HT.out.symm, rfl⟩
    case round =>
      obtain ⟨k, l, hk, rfl, rfl, hq0, hq1, hsz, rfl⟩ := hrel
      clear HT
      by_cases hlt : k < n
      · obtain ⟨g, o, cc, hv, hg, hc⟩ := H.out.rows.cells (by rw [HNL.out]; omega)
        injection hv with hA hnn hcc
        subst hA
        clear hnn
        rw [HNL.out] at hc
        obtain ⟨u, hu1, hu2⟩ := hc k hlt
        have i1 : (k : Int) < (n : Int) := by omega
        have i2 : 0 ≤ (k : Int) := by omega
        have hdr : xss.drop k = xss.getD k [] :: xss.drop (k + 1) := by
          rw [List.drop_eq_getElem_cons (by rw [HNL.out]; exact hlt), List.getD_eq_getElem?_getD, List.getElem?_eq_getElem (by rw [HNL.out]; exact hlt), Option.getD_some]
        rw [hdr, szR] at hsz
        have hmx := HLm.out k (by rw [HNL.out]; exact hlt)
        have m3 : maxLen ≤ 9223372036854775807 := by simp [maxLen]
        have HSI := Lib.hid (szInts_any u (xss.getD k []) l wr hu2 (by omega) ⟨hq0, hq1⟩)
        obtain ⟨A1, c1, rfl⟩ := hu2.shape
        clear hc hu2 hdr hmx m3 hcc
        generalize xss.getD k [] = r at *
        by_cases hr : l - (r.length : Int) < 0
        · rw [if_pos hr] at hsz HSI
          have HTT := Lib.hid hsz
          clear hsz hr
          go_wp2_with (go_at_call 21; refine HSI.out.mono ?_; rintro e w' ⟨rfl, rfl⟩)
          go_ret
          exact ⟨by rw [← HTT.out]; rfl, rfl⟩
        · rw [if_neg hr] at hsz HSI
          have HTT := Lib.hid hsz
          have hp : 0 ≤ l - (r.length : Int) := by omega
          have hp2 : l - (r.length : Int) ≤ 1048576 := by omega
          generalize l - (r.length : Int) = l2 at *
          clear hsz hr
          go_wp2_with (go_at_call 21; refine HSI.out.mono ?_; rintro e w' ⟨rfl, rfl⟩)
          go_roundw
          case rel => exact ⟨k + 1, l2, by omega, by go_num, rfl, hp, hp2, HTT.out, by trivial⟩
          case measure => first | (simp [intOf]; done) | (simp [intOf]; omega)
      · obtain rfl : k = n := by omega
        have HTT : Hid (l = T) := Lib.hid (by rw [← hsz, List.drop_of_length_le (by rw [HNL.out]; omega)]; rfl)
        clear hsz
        go_wp2_with fail
        go_ret
        exact ⟨by rw [← HTT.out]; rfl, rfl⟩
/-- a row of a table of the call's own turned to another slice -/
theorem TRow.putM {w : World} {B M g c n : Nat} {vs : List Value} {xss : List (List Int)} {u : Value} {t : List Int} {j : Nat} (h : TRow w B M (.slice (some ⟨g, 0, none⟩) n c) vs xss) (hj : j < xss.length) (hu : IRow w M u t) (hBM : B ≤ M) :
    TRow (w.setCell ⟨g, j, none⟩ u) B w.heap.size (.slice (some ⟨g, 0, none⟩) n c) (vs.set j u) (xss.set j t) ∧ w.grownBy (w.setCell ⟨g, j, none⟩ u) (some g) := by
  have hs := h.out.set j u
  have hgM := h.outM g rfl
  have hgv : ∀ i, (vs.set j u).getD i NilS = if i = j ∧ j < vs.length then u else vs.getD i NilS := fun i => by
    rw [List.getD_eq_getElem?_getD, List.getElem?_set]
    by_cases e : j = i
    · subst e
      rw [if_pos rfl]
      by_cases h2 : j < vs.length
      · rw [if_pos h2, if_pos ⟨rfl, h2⟩]; rfl
      · rw [if_neg h2, if_neg (fun x => h2 x.2), List.getD_eq_getElem?_getD, List.getElem?_eq_none (by omega)]
    · rw [if_neg e, if_neg (fun x => e x.1.symm), ← List.getD_eq_getElem?_getD]
  have hgx : ∀ i, (xss.set j t).getD i [] = if i = j then t else xss.getD i [] := fun i => by
    rw [List.getD_eq_getElem?_getD, List.getElem?_set]
    by_cases e : j = i
    · subst e
      rw [if_pos rfl, if_pos hj, if_pos rfl]; rfl
    · rw [if_neg e, if_neg (fun x => e x.symm), ← List.getD_eq_getElem?_getD]
  have hjv : j < vs.length := by rw [h.len]; exact hj
  have hub := fun k e => hu.blk k e
  refine ⟨⟨by rw [List.length_set, List.length_set]; exact h.len, hs.1, fun k hk => by injection hk with hk; subst hk; exact Nat.lt_of_lt_of_le hgM h.size, fun i hi => ?_, fun i hi k hk => ?_, fun i i' hi hi' hne a b ha hb => ?_, fun i hi a b ha hb => ?_, by simp [World.setCell]⟩, hs.2⟩
  · rw [List.length_set] at hi
    rw [hgv, hgx]
    by_cases e : i = j
    · rw [if_pos ⟨e, hjv⟩, if_pos e]
      have k3 : IRow (w.setCell ⟨g, j, none⟩ u) M u t := World.ownsRow.kept hu hs.2 (by
        cases e3 : u.ownBlock with
        | none => exact .inl rfl
        | some k => exact .inr (fun e2 => by injection e2 with e2; have := (hub k e3).1; omega))
      exact k3.mono hBM
    · rw [if_neg (fun x => e x.1), if_neg e]
      exact World.ownsRow.kept (h.row i hi) hs.2 (by
        cases e3 : (vs.getD i NilS).ownBlock with
        | none => exact .inl rfl
        | some k => exact .inr (fun e2 => by injection e2 with e2; exact h.off i hi g k rfl e3 e2.symm))
  · rw [List.length_set] at hi
    rw [hgv] at hk
    by_cases e : i = j
    · rw [if_pos ⟨e, hjv⟩] at hk
      exact (hub k hk).2
    · rw [if_neg (fun x => e x.1)] at hk
      exact Nat.lt_of_lt_of_le (h.rowM i hi k hk) h.size
  · rw [List.length_set] at hi hi'
    rw [hgv] at ha hb
    by_cases e : i = j
    · have e' : i' ≠ j := fun x => hne (e.trans x.symm)
      rw [if_pos ⟨e, hjv⟩] at ha
      rw [if_neg (fun x => e' x.1)] at hb
      have := (hub a ha).1
      have := h.rowM i' hi' b hb
      omega
    · rw [if_neg (fun x => e x.1)] at ha
      by_cases e' : i' = j
      · rw [if_pos ⟨e', hjv⟩] at hb
        have := (hub b hb).1
        have := h.rowM i hi a ha
        omega
      · rw [if_neg (fun x => e' x.1)] at hb
        exact h.apart i i' hi hi' hne a b ha hb
  · rw [List.length_set] at hi
    rw [hgv] at hb
    injection ha with ha
    subst ha
    by_cases e : i = j
    · rw [if_pos ⟨e, hjv⟩] at hb
      have := (hub b hb).1
      show g ≠ b
      omega
    · rw [if_neg (fun x => e x.1)] at hb
      exact h.off i hi g b rfl hb
/-- the first k copied -/
def cpT (xss : List (List Int)) (k : Nat) : List (List Int) := xss.take k ++ List.replicate (xss.length - k) []
theorem cpT_length (xss : List (List Int)) {k : Nat} (h : k ≤ xss.length) : (cpT xss k).length = xss.length := by simp [cpT]; omega
theorem cpT_set (xss : List (List Int)) {k : Nat} (h : k < xss.length) : (cpT xss k).set k (xss.getD k []) = cpT xss (k + 1) := by
  unfold cpT
  rw [List.take_succ_eq_append_getElem h, List.set_append, List.length_take, if_neg (by omega), show k - min k xss.length = 0 by omega,
    show xss.length - k = (xss.length - (k + 1)) + 1 by omega, List.replicate_succ, List.set_cons_zero, List.getD_eq_getElem?_getD, List.getElem?_eq_getElem h, List.append_assoc]
  rfl
theorem cpT_full (xss : List (List Int)) : cpT xss xss.length = xss := by simp [cpT]
theorem TRow.empty {w : World} {B g c n : Nat} (h : VRow w B (.slice (some ⟨g, 0, none⟩) n c) (List.replicate n NilS)) : TRow w B w.heap.size (.slice (some ⟨g, 0, none⟩) n c) (List.replicate n NilS) (List.replicate n []) := by
  have hg : ∀ i, (List.replicate n NilS).getD i NilS = NilS := fun i => by
    rw [List.getD_eq_getElem?_getD, List.getElem?_replicate]
    split <;> rfl
  have hx : ∀ i, (List.replicate n ([] : List Int)).getD i [] = [] := fun i => by
    rw [List.getD_eq_getElem?_getD, List.getElem?_replicate]
    split <;> rfl
  refine ⟨by simp, h, (fun k hk => (h.blk k hk).2), (fun j hj => by rw [hg, hx]; exact IRow.nil _ _), (fun j hj k hk => by rw [hg] at hk; cases hk), (fun i j hi hj hne a b ha hb => by rw [hg] at ha; cases ha), (fun j hj a b ha hb => by rw [hg] at hb; cases hb), Nat.le_refl _⟩
set_option maxRecDepth 100000 in
set_option maxHeartbeats 2000000 in
theorem toIntSS_any (v : Value) (xss : List (List Int)) (w : World) (h : MRows w v xss) (hl : xss.length ≤ 1048576) (hl2 : ∀ k, k < xss.length → (xss.getD k []).length ≤ 1048576) :
    Calls Tryd.prog 9 #[v] w (TabsNew w xss) := by
  obtain ⟨A0, cap, rfl⟩ := h.rows.shape
  have H := Lib.hid h
  clear h
  have HC : Hid (∀ k, k < xss.length → ∀ u w', RInts w' u (xss.getD k []) → Calls Tryd.prog 23 #[u] w' (IntsNew w' (xss.getD k []))) := Lib.hid fun k hk u w' hr => toIntS_any u _ w' hr (hl2 k hk)
  have HCL : Hid (∀ k, k ≤ xss.length → (cpT xss k).length = xss.length) := Lib.hid fun k hk => cpT_length xss hk
  have HCS : Hid (∀ k, k < xss.length → (cpT xss k).set k (xss.getD k []) = cpT xss (k + 1)) := Lib.hid fun k hk => cpT_set xss hk
  have HCF := Lib.hid (cpT_full xss)
  have HC0 : Hid (cpT xss 0 = List.replicate xss.length []) := Lib.hid (by simp [cpT])
  obtain ⟨n, hn⟩ : ∃ n, xss.length = n := ⟨_, rfl⟩
  have HNL := Lib.hid hn
  rw [hn] at HC HCL HCS HCF HC0 hl ⊢
  rw [hn] at H
  clear hl2 hn
  obtain ⟨i0, hi, hz0, hz1, hz2⟩ := info_parts vecInfo
  go_enter Tryd.func9, Tryd.ntmps9
  go_wp2_with (refine wpList_make_full _ rfl (.tmp 6) (.tmp 6) 25 rfl w.heap.size 33 i0 (.slice none 0 0) 1 Tryd.underlying25 hi hz0 hz1 .i64 .i64 _ _ n rfl rfl (by omega) (by omega) (by rw [hz2]; omega) (by unfold maxLen; omega) (Nat.le_refl _) ?_; intro w1 hown1 hgrow1)
  have hv1 : VRow w1 w.heap.size (.slice (some ⟨w.heap.size, 0, none⟩) n n) (List.replicate n NilS) := by
    unfold VRow
    rw [madeOne _ rfl] at hown1
    simpa using hown1
  have HB1 : Hid (Below w.heap.size w w1) := Lib.hid ((Below.refl _ _).grown hgrow1 (Nat.le_refl _) (by simp))
  have HT1 := Lib.hid (TRow.empty hv1)
  rw [← HC0.out] at HT1
  clear hown1 hgrow1 hv1
  go_loopw [4] (fun i wr => ∃ (k M : Nat) (vs : List Value), k ≤ n ∧ i = .int .i64 (k : Int) ∧ TRow wr w.heap.size M (.slice (some ⟨w.heap.size, 0, none⟩) n n) vs (cpT xss k) ∧ w.heap.size ≤ M ∧ Below w.heap.size w wr) (fun i _ => n - (intOf i).toNat)
  case atStart => exact ⟨0, _, _, Nat.zero_le _, rfl, HT1.out, HB1.out.size, HB1.out⟩
  case round =>
    obtain ⟨k, M, vs, hk, rfl, htr, hM, hb⟩ := hrel
    clear HT1 HB1
    by_cases hlt : k < n
    · obtain ⟨g, o, cc, hv, hg, hcells⟩ := H.out.rows.cells (by rw [HNL.out]; omega)
      injection hv with hA hnn hcc
      subst hA
      clear hnn
      obtain ⟨u, hu1, hu2⟩ := hcells k (by rw [HNL.out]; exact hlt)
      have e1 := (hb.cell (p := ⟨g, o + k, none⟩) hg).trans hu1
      have hu3 := hu2.below hb
      have i1 : (k : Int) < (n : Int) := by omega
      have i2 : 0 ≤ (k : Int) := by omega
      have HU := Lib.hid (HC.out k hlt u wr hu3)
      obtain ⟨A1, c1, rfl⟩ := hu2.shape
      have HKS := Lib.hid (HCS.out k hlt)
      have hcl := HCL.out k hk
      have htl := htr.len
      have HTR := Lib.hid htr
      have HB := Lib.hid hb
      have hcg : (cpT xss k).getD k [] = (cpT xss k).getD k [] := rfl
      have HVL : Hid (k < vs.length) := Lib.hid (by omega)
      have HCK : Hid (k < (cpT xss k).length) := Lib.hid (by omega)
      generalize xss.getD k [] = r at *
      generalize cpT xss k = CK at *
      clear hcells hu1 hu2 hu3 htr hb hcc hcl htl hcg
      go_wp2_with (go_at_call 23; refine HU.out.mono ?_; rintro e w2 ⟨v2, rfl, hr2, hb2⟩; obtain ⟨A2, c2, rfl⟩ := hr2.shape; have ht2 := HTR.out.below hb2; have s0 := ht2.out.cell (j := k) HVL.out; have s1 := ht2.out.free k; have HT2 := Lib.hid (ht2.mono (B' := w.heap.size) (M' := wr.heap.size) (Nat.le_refl _) HTR.out.size hb2.size); have HR2 := Lib.hid hr2; have HB2 := Lib.hid (HB.out.trans (hb2.mono HB.out.size)); clear ht2 hb2 hr2)
      have hp := HT2.out.putM HCK.out HR2.out HB.out.size
      have HP := Lib.hid hp.1
      rw [HKS.out] at HP
      clear hp
      go_roundw
      case rel => exact ⟨k + 1, _, _, by omega, by go_num, HP.out, HB2.out.size, HB2.out.setCell (p := ⟨w.heap.size, k, none⟩) (Nat.le_refl _) _⟩
      case measure => first | (simp [intOf]; done) | (simp [intOf]; omega)
    · obtain rfl : k = n := by omega
      rw [HCF.out] at htr
      have HT := Lib.hid (htr.mono (B' := w.heap.size) (M' := wr.heap.size) (Nat.le_refl _) htr.size (Nat.le_refl _))
      have HB := Lib.hid hb
      clear htr hb
      go_wp2_with fail
      go_ret
      exact ⟨_, _, rfl, HT.out, HB.out⟩
/-- rows that came in -/
theorem MRows.of_rows (w : World) (a : Addr) (len cap : Nat) (A : Nat → Option Addr) (L C : Nat → Nat) (Z : Nat → List Int) (hl : len ≤ cap) (hm : cap ≤ maxLen)
    (h : ∀ r, r < cap → w.cell? (a.add r) = some (.slice (A r) (L r) (C r)) ∧ L r ≤ C r ∧ C r ≤ maxLen ∧ (Z r).length = C r ∧ (∀ n ∈ Z r, (Lit.int .i64 n).wf = true) ∧ (A r = none → C r = 0) ∧ ∀ a', A r = some a' → ∀ c, c < C r → w.cell? (a'.add c) = some (.int .i64 ((Z r).getD c 0))) :
    ∃ xss, MRows w (.slice (some a) len cap) xss ∧ ∀ k, k < xss.length → (xss.getD k []).length ≤ maxLen := by
  have hg : ∀ j, j < len → ((List.range len).map fun r => (Z r).take (L r)).getD j [] = (Z j).take (L j) := fun j hj => by
    rw [List.getD_eq_getElem?_getD, List.getElem?_map, List.getElem?_range hj]
    rfl
  have hlen : ((List.range len).map fun r => (Z r).take (L r)).length = len := by simp
  refine ⟨(List.range len).map fun r => (Z r).take (L r), ⟨⟨⟨_, _, by rw [hlen]⟩, fun hx => ?_⟩, fun A n c e => by injection e with e1 e2 e3; subst e2 e3; exact ⟨hl, hm⟩⟩, fun k hk => ?_⟩
  · rw [hlen] at hx
    obtain ⟨b, off, spot⟩ := a
    have h0 := (h 0 (by omega)).1
    have hspot : spot = none := by simpa [Addr.add] using World.cell?_spot h0
    subst hspot
    refine ⟨b, off, cap, by rw [hlen], World.block_lt_of_cell? w _ h0, fun j hj => ?_⟩
    rw [hlen] at hj
    obtain ⟨h1, h2, h3, h4, h5, h6, h7⟩ := h j (by omega)
    have e : (⟨b, off, none⟩ : Addr).add j = ⟨b, off + j, none⟩ := by unfold Addr.add; split <;> simp_all
    rw [e] at h1
    refine ⟨_, h1, ?_⟩
    rw [hg j hj]
    refine RInts.of_in ?_
    cases hA : A j with
    | none =>
      have := h6 hA
      exact .inl ⟨rfl, by omega, this, List.eq_nil_of_length_eq_zero (by omega)⟩
    | some x => exact .inr ⟨x, rfl, h2, h3, h4, fun i hi => h7 x hA i (by omega), h5⟩
  · rw [hlen] at hk
    obtain ⟨h1, h2, h3, h4, _⟩ := h k (by omega)
    rw [hg k hk, List.length_take]
    omega
theorem MRows.nil (w : World) : MRows w (.slice none 0 0) [] := ⟨⟨⟨_, _, rfl⟩, fun h => absurd h (by simp)⟩, fun A n c e => by injection e with e1 e2 e3; subst e2 e3; exact ⟨Nat.le_refl _, by simp [maxLen]⟩⟩
end Go.Proofs.YtmfcknlpbliehaaDoor

/- Votes for four candidates: plain bytes. -/
namespace Go.Proofs.YtmfcknlpbliehaaDoor
open Go.RowKit
set_option linter.unusedVariables false
def isV (c : UInt8) : Bool := decide (97 ≤ c.toNat) && decide (c.toNat ≤ 100)
def votB (s : ByteArray) : Bool := decide (s.size ≤ 16) && s.data.toList.all isV
/-- the candidate of vote k -/
def cd (s : ByteArray) (k : Nat) : Nat := (s.data.toList.getD k 0).toNat - 97
theorem votB_iff (s : ByteArray) : votB s = true ↔ s.size ≤ 16 ∧ ∀ k (h : k < s.size), isV s[k] = true := by
  unfold votB
  rw [Bool.and_eq_true, decide_eq_true_iff, List.all_eq_true]
  constructor
  · rintro ⟨h1, h2⟩
    exact ⟨h1, fun k h => h2 _ (by
      have : s[k] = s.data.toList[k]'(by simpa using h) := rfl
      rw [this]; exact List.getElem_mem _)⟩
  · rintro ⟨h1, h2⟩
    refine ⟨h1, fun x hx => ?_⟩
    obtain ⟨i, hi, rfl⟩ := List.mem_iff_getElem.1 hx
    exact h2 i (by simpa using hi)
theorem isV_iff (c : UInt8) : isV c = true ↔ 97 ≤ c.toNat ∧ c.toNat ≤ 100 := by
  unfold isV; rw [Bool.and_eq_true, decide_eq_true_iff, decide_eq_true_iff]
theorem getD_byte (s : ByteArray) (k : Nat) (h : k < s.size) : s.data.toList.getD k 0 = s[k] := by
  have h' : k < s.data.toList.length := by simpa using h
  rw [List.getD_eq_getElem?_getD, List.getElem?_eq_getElem h']; rfl
theorem cd_at {s : ByteArray} (hv : votB s = true) {k : Nat} (h : k < s.size) : ((s[k].toNat : Nat) : Int) = 97 + (cd s k : Nat) ∧ cd s k < 4 := by
  have h1 := (isV_iff _).1 (((votB_iff s).1 hv).2 k h)
  unfold cd
  rw [getD_byte s k h]
  omega
/-- how many of the first k votes are for c -/
def vc (s : ByteArray) (c : Nat) : Nat → Nat
  | 0 => 0
  | k + 1 => vc s c k + (if cd s k = c then 1 else 0)
theorem vc_le (s : ByteArray) (c : Nat) : ∀ k, vc s c k ≤ k
  | 0 => Nat.le_refl _
  | k + 1 => by
    have := vc_le s c k
    rw [vc]; split <;> omega
theorem vc_hit {s : ByteArray} {c k : Nat} (h : cd s k = c) : vc s c (k + 1) = vc s c k + 1 := by rw [vc, if_pos h]
theorem vc_miss {s : ByteArray} {c k : Nat} (h : ¬ cd s k = c) : vc s c (k + 1) = vc s c k := by rw [vc, if_neg h]; rfl
theorem vc_sum {s : ByteArray} : ∀ k, (∀ j, j < k → cd s j < 4) → vc s 0 k + vc s 1 k + vc s 2 k + vc s 3 k = k
  | 0, _ => rfl
  | k + 1, h => by
    have h1 := vc_sum k (fun j hj => h j (by omega))
    have h2 := h k (by omega)
    rw [vc, vc, vc, vc]
    have : cd s k = 0 ∨ cd s k = 1 ∨ cd s k = 2 ∨ cd s k = 3 := by omega
    rcases this with e | e | e | e <;> rw [e] <;> simp <;> omega
theorem vc_mono (s : ByteArray) (c : Nat) (k : Nat) : vc s c k ≤ vc s c (k + 1) := by rw [vc]; omega
def vcL (s : ByteArray) (k : Nat) : List Int := [((vc s 0 k : Nat) : Int), ((vc s 1 k : Nat) : Int), ((vc s 2 k : Nat) : Int), ((vc s 3 k : Nat) : Int)]
theorem vcL_len (s : ByteArray) (k : Nat) : (vcL s k).length = 4 := rfl
theorem vcL_zero (s : ByteArray) : vcL s 0 = List.replicate 4 0 := rfl
theorem vcL_get (s : ByteArray) (k c : Nat) (h : c < 4) : (vcL s k).getD c 0 = ((vc s c k : Nat) : Int) := by
  have : c = 0 ∨ c = 1 ∨ c = 2 ∨ c = 3 := by omega
  rcases this with e | e | e | e <;> subst e <;> rfl
theorem vcL_set (s : ByteArray) (k : Nat) (h : cd s k < 4) : (vcL s k).set (cd s k) (((vc s (cd s k) k : Nat) : Int) + 1) = vcL s (k + 1) := by
  unfold vcL
  have : cd s k = 0 ∨ cd s k = 1 ∨ cd s k = 2 ∨ cd s k = 3 := by omega
  rcases this with e | e | e | e <;> simp [vc, e]
theorem cd_pre (s : ByteArray) (i k : Nat) (h : k < i) : cd (s.extract 0 i) k = cd s k := by
  unfold cd
  congr 2
  rw [List.getD_eq_getElem?_getD, List.getD_eq_getElem?_getD]
  congr 1
  simp [ByteArray.data_extract]
  rw [List.getElem?_take, if_pos h]
  simp
theorem vc_pre (s : ByteArray) (c i : Nat) : ∀ k, k ≤ i → vc (s.extract 0 i) c k = vc s c k
  | 0, _ => rfl
  | k + 1, h => by rw [vc, vc, vc_pre s c i k (by omega), cd_pre s i k (by omega)]
theorem vcL_pre (s : ByteArray) (i k : Nat) (h : k ≤ i) : vcL (s.extract 0 i) k = vcL s k := by
  unfold vcL
  rw [vc_pre s 0 i k h, vc_pre s 1 i k h, vc_pre s 2 i k h, vc_pre s 3 i k h]
theorem pre_size (s : ByteArray) (i : Nat) (h : i ≤ s.size) : (s.extract 0 i).size = i := by simp; omega
theorem pre_get (s : ByteArray) (i k : Nat) (h : k < (s.extract 0 i).size) (h2 : k < s.size) : (s.extract 0 i)[k] = s[k] := by
  simp [ByteArray.getElem_extract]
theorem votB_pre {s : ByteArray} (h : votB s = true) {i : Nat} (hi : i ≤ s.size) : votB (s.extract 0 i) = true := by
  have h1 := (votB_iff s).1 h
  refine (votB_iff _).2 ⟨by rw [pre_size s i hi]; omega, fun k hk => ?_⟩
  have hk2 : k < s.size := by rw [pre_size s i hi] at hk; omega
  rw [pre_get s i k hk hk2]
  exact h1.2 k hk2
theorem votB_lt {s : ByteArray} (h : votB s = true) (j : Nat) (hj : j < s.size) : cd s j < 4 := (cd_at h hj).2
theorem vcS {s : ByteArray} (h : votB s = true) {k : Nat} (hk : k ≤ s.size) : vc s 0 k + vc s 1 k + vc s 2 k + vc s 3 k = k := vc_sum k (fun j hj => votB_lt h j (by omega))
/-- the greatest of numbers, at least 0 -/
def moTo (xs : List Int) : Nat → Int
  | 0 => 0
  | k + 1 => max (moTo xs k) (xs.getD k 0)
/-- the letters of the first k with the number m -/
def wiTo (xs : List Int) (m : Int) : Nat → ByteArray
  | 0 => ⟨#[]⟩
  | k + 1 => if xs.getD k 0 = m then wiTo xs m k ++ ⟨#[UInt8.ofNat (97 + k)]⟩ else wiTo xs m k
theorem wiTo_size (xs : List Int) (m : Int) : ∀ k, (wiTo xs m k).size ≤ k
  | 0 => Nat.le_refl _
  | k + 1 => by
    have := wiTo_size xs m k
    rw [wiTo]; split
    · rw [ByteArray.size_append]; exact Nat.succ_le_succ this
    · omega
def wiV (xs : List Int) : ByteArray := wiTo xs (moTo xs 4) 4
def leL (s : ByteArray) : Nat → List ByteArray
  | 0 => []
  | k + 1 => leL s k ++ [wiV (vcL s (k + 1))]
theorem leL_len (s : ByteArray) : ∀ k, (leL s k).length = k
  | 0 => rfl
  | k + 1 => by rw [leL, List.length_append, leL_len s k]; rfl
/-- no candidate has more than the one before -/
def faB (s : ByteArray) (k : Nat) : Bool := decide (vc s 1 k ≤ vc s 0 k) && decide (vc s 2 k ≤ vc s 1 k) && decide (vc s 3 k ≤ vc s 2 k)
/-- the least number of the first k votes behind which it is not so, or 0 -/
def foTo (s : ByteArray) : Nat → Nat
  | 0 => 0
  | k + 1 => if foTo s k = 0 then (if faB s (k + 1) = true then 0 else k + 1) else foTo s k
theorem foTo_le (s : ByteArray) : ∀ k, foTo s k ≤ k
  | 0 => Nat.le_refl _
  | k + 1 => by
    have := foTo_le s k
    rw [foTo]; split
    · split <;> omega
    · omega
theorem fo_yes {s : ByteArray} {k : Nat} (h : foTo s k = 0) (hf : faB s (k + 1) = true) : foTo s (k + 1) = 0 := by rw [foTo, if_pos h, if_pos hf]
theorem fo_no {s : ByteArray} {k : Nat} (h : foTo s k = 0) (hf : faB s (k + 1) = false) : foTo s (k + 1) = k + 1 := by rw [foTo, if_pos h, if_neg (by simp [hf])]
theorem fo_stay {s : ByteArray} {k n : Nat} (h : ¬ foTo s k = 0) : ∀ n, k ≤ n → foTo s n = foTo s k := by
  intro n hn
  induction n with
  | zero => rw [show k = 0 by omega]
  | succ n ih =>
    by_cases e : k = n + 1
    · rw [e]
    · have := ih (by omega)
      rw [foTo, if_neg (by rw [this]; exact h), this]
theorem fo_back {s : ByteArray} {n : Nat} (h : foTo s n = 0) : ∀ k, k ≤ n → foTo s k = 0 := fun k hk => Classical.byContradiction fun hx => by
  have := fo_stay (n := n) hx n hk
  omega
theorem faB_zero (s : ByteArray) : faB s 0 = true := rfl
theorem fo_fall {s : ByteArray} {n : Nat} (h : foTo s n = 0) : faB s n = true := by
  cases n with
  | zero => rfl
  | succ n =>
    have h0 := fo_back h n (by omega)
    cases hf : faB s (n + 1) with
    | true => rfl
    | false => rw [fo_no h0 hf] at h; omega
theorem faB_iff (s : ByteArray) (k : Nat) : faB s k = true ↔ vc s 1 k ≤ vc s 0 k ∧ vc s 2 k ≤ vc s 1 k ∧ vc s 3 k ≤ vc s 2 k := by
  unfold faB; simp only [Bool.and_eq_true, decide_eq_true_iff]; exact ⟨fun h => ⟨h.1.1, h.1.2, h.2⟩, fun h => ⟨⟨h.1, h.2.1⟩, h.2.2⟩⟩
/-- with one more vote a candidate has more than the one before -/
theorem fa_over {s : ByteArray} {k : Nat} (hc : cd s k < 4) (hf : faB s k = true) : faB s (k + 1) = false ↔ 0 < cd s k ∧ vc s (cd s k) k = vc s (cd s k - 1) k := by
  have h1 := (faB_iff s k).1 hf
  rw [← Bool.not_eq_true, faB_iff, vc, vc, vc, vc]
  have : cd s k = 0 ∨ cd s k = 1 ∨ cd s k = 2 ∨ cd s k = 3 := by omega
  rcases this with e | e | e | e <;> rw [e] <;> simp <;> omega
def oB (s : ByteArray) : Bool := votB s && decide (foTo s s.size = 0)
end Go.Proofs.YtmfcknlpbliehaaDoor
