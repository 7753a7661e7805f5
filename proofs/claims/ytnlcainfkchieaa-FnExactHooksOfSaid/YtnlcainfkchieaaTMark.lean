/- markIntSS, heldIntSS. -/
import Derived.Test.YtnlcainfkchieaaTOwn
namespace Go.Proofs.Ytnlcainfkchieaa
open Go.RowKit
set_option linter.unusedVariables false
def mof (m : Int) (xss : List (List Int)) (j : Nat) : Int := m + ((xss.take j).flatten.length : Int)
theorem mof_0 (m : Int) (xss : List (List Int)) : mof m xss 0 = m := by simp [mof]
theorem mof_succ (m : Int) (xss : List (List Int)) (j : Nat) (h : j < xss.length) : mof m xss (j + 1) = mof m xss j + ((xss.getD j []).length : Int) := by
  unfold mof
  rw [flat_take xss j h, List.length_append]
  omega
theorem mof_bd (m : Int) (xss : List (List Int)) (j : Nat) : m ≤ mof m xss j ∧ mof m xss j ≤ m + (xss.flatten.length : Int) := by
  have := flat_le xss j
  unfold mof
  omega
theorem mof_full (m : Int) (xss : List (List Int)) : mof m xss xss.length = m + (xss.flatten.length : Int) := by unfold mof; rw [List.take_length]
/-- the first i rows are marked -/
def tmk (m : Int) (xss : List (List Int)) (i : Nat) : List (List Int) := (List.range xss.length).map fun j => if j < i then marks (mof m xss j) (xss.getD j []).length else xss.getD j []
theorem tmk_length (m : Int) (xss : List (List Int)) (i : Nat) : (tmk m xss i).length = xss.length := by simp [tmk]
theorem tmk_get (m : Int) (xss : List (List Int)) (i j : Nat) (h : j < xss.length) : (tmk m xss i).getD j [] = if j < i then marks (mof m xss j) (xss.getD j []).length else xss.getD j [] := by
  unfold tmk
  rw [List.getD_eq_getElem?_getD, List.getElem?_map, List.getElem?_range h]
  rfl
theorem ext_getD {a b : List (List Int)} (hl : a.length = b.length) (h : ∀ j, j < a.length → a.getD j [] = b.getD j []) : a = b := by
  apply List.ext_getElem hl
  intro j h1 h2
  have := h j h1
  rw [List.getD_eq_getElem?_getD, List.getD_eq_getElem?_getD, List.getElem?_eq_getElem h1, List.getElem?_eq_getElem h2] at this
  simpa using this
theorem tmk_0 (m : Int) (xss : List (List Int)) : tmk m xss 0 = xss := ext_getD (tmk_length _ _ _) (fun j hj => by rw [tmk_get _ _ _ _ (by rw [tmk_length] at hj; exact hj), if_neg (by omega)])
theorem tmk_set (m : Int) (xss : List (List Int)) (i : Nat) (hi : i < xss.length) : (tmk m xss i).set i (marks (mof m xss i) (xss.getD i []).length) = tmk m xss (i + 1) := by
  refine ext_getD (by rw [List.length_set, tmk_length, tmk_length]) (fun j hj => ?_)
  rw [List.length_set, tmk_length] at hj
  rw [tmk_get _ _ _ _ hj, List.getD_eq_getElem?_getD, List.getElem?_set]
  by_cases e : i = j
  · subst e
    rw [if_pos rfl, if_pos (by rw [tmk_length]; exact hi), if_pos (by omega)]
    rfl
  · rw [if_neg e, ← List.getD_eq_getElem?_getD, tmk_get _ _ _ _ hj]
    by_cases c : j < i
    · rw [if_pos c, if_pos (by omega)]
    · rw [if_neg c, if_neg (by omega)]
/-- nothing turned but in blocks from B up to M -/
structure Mid (B M : Nat) (w w' : World) : Prop where
  os : w'.os = w.os
  tape : w'.tape = w.tape
  output : w'.output = w.output
  size : w.heap.size ≤ w'.heap.size
  block : ∀ k, k < w.heap.size → (k < B ∨ M ≤ k) → w'.heap[k]? = w.heap[k]?
theorem Mid.refl (B M : Nat) (w : World) : Mid B M w w := ⟨rfl, rfl, rfl, Nat.le_refl _, fun _ _ _ => rfl⟩
theorem Mid.step {B M : Nat} {w w1 w2 : World} {r : Option Nat} (h : Mid B M w w1) (hg : w1.grownBy w2 r) (hr : ∀ k, r = some k → B ≤ k ∧ k < M) : Mid B M w w2 :=
  ⟨hg.os.trans h.os, hg.tape.trans h.tape, hg.output.trans h.output, Nat.le_trans h.size hg.size, fun k hk hc => (hg.block k (Nat.lt_of_lt_of_le hk h.size) (fun e => by have := hr k e.symm; omega)).trans (h.block k hk hc)⟩
theorem Mid.below {B M : Nat} {w0 w w' : World} {C : Nat} (h : Mid B M w w') (hb : Below C w0 w) (hC : C ≤ B) (hs : C ≤ w.heap.size) : Below C w0 w' :=
  ⟨h.os.trans hb.os, h.tape.trans hb.tape, h.output.trans hb.output, Nat.le_trans hb.size h.size, fun k hk => (h.block k (by omega) (.inl (by omega))).trans (hb.block k hk)⟩
theorem IRow.mid {w w' : World} {B M B1 : Nat} {v : Value} {xs : List Int} (h : IRow w B1 v xs) (hm : Mid B M w w') (hk : ∀ k, v.ownBlock = some k → k < B ∨ M ≤ k) : IRow w' B1 v xs := by
  refine ⟨h.1, ?_⟩
  rcases h.2 with h2 | ⟨g, cap, cur, hv, hB, hg, r⟩
  · exact .inl h2
  · subst hv
    exact .inr ⟨g, cap, cur, rfl, hB, by rw [hm.block g (Array.getElem?_eq_some_iff.1 hg).1 (hk g rfl)]; exact hg, r⟩
theorem TRow.mid {w w' : World} {B M B1 M1 : Nat} {v : Value} {vs : List Value} {xss : List (List Int)} (h : TRow w B1 M1 v vs xss) (hm : Mid B M w w') (hk : M1 ≤ B ∨ M ≤ B1) : TRow w' B1 M1 v vs xss where
  len := h.len
  out := h.out.same fun k hk2 => hm.block k (h.out.blk k hk2).2 (by have := h.outB k hk2; omega)
  outM := h.outM
  row j hj := (h.row j hj).mid hm (fun k hk2 => by have := h.rowB hj k hk2; omega)
  rowM := h.rowM
  apart := h.apart
  off := h.off
  size := Nat.le_trans h.size hm.size
set_option maxHeartbeats 800000 in
theorem markTabs_any (v : Value) (vs : List Value) (xss : List (List Int)) (B M : Nat) (m : Int) (w : World) (h : TRow w B M v vs xss) (hl : xss.length ≤ 1048576) (hs : xss.flatten.length ≤ 1048576) (hm : 0 ≤ m ∧ m ≤ 1048576) :
    Calls Try.prog 21 #[v, .int .i64 m] w fun e w' => e = .returned (.int .i64 (m + (xss.flatten.length : Int))) ∧ TRow w' B M v vs (tmk m xss xss.length) ∧ Mid B M w w' := by
  by_cases h0 : xss.length = 0
  · obtain ⟨A1, c1, rfl⟩ := h.out.shape
    have hx : xss = [] := List.eq_nil_of_length_eq_zero h0
    subst hx
    have H := Lib.hid h
    rw [h.len]
    have hl2 := h.len
    clear h h0
    rw [hl2] at H
    go_enter Try.func21, Try.ntmps21
    go_wp2
    refine wp_loop_rounds 1 ?_; rw [rounds_succ]
    go_wp2
    go_ret
    exact ⟨ret_int (by simp), by rw [tmk_0]; exact H.out, Mid.refl _ _ _⟩
  · obtain ⟨g1, c1, rfl, _, _, q1⟩ := h.form rfl (by omega)
    have HLEN := Lib.hid h.len
    have HF : Hid (∀ k, k < xss.length → mof m xss (k + 1) = mof m xss k + ((xss.getD k []).length : Int)) := Lib.hid (mof_succ m xss)
    have HB := Lib.hid (mof_bd m xss)
    have HT := Lib.hid (tmk_set m xss)
    have HG := Lib.hid (tmk_get m xss)
    have HE := Lib.hid (mof_full m xss)
    have H0 := Lib.hid (tmk_0 m xss)
    have H00 := Lib.hid (mof_0 m xss)
    have HL := Lib.hid (tmk_length m xss)
    generalize xss.flatten.length = L at *
    generalize hT : tmk m xss = T at *
    generalize hO : mof m xss = O at *
    generalize hn : xss.length = n at *
    clear hT hO
    have HRL : Hid (∀ k, k < n → ((xss.getD k []).length : Int) ≤ L) := Lib.hid fun k hk => by
      have a := HF.out k hk
      have b := HB.out (k + 1)
      have c := HB.out k
      omega
    clear q1 hn
    go_enter Try.func21, Try.ntmps21
    go_wp2
    go_loopw [1, 5] (fun q i wr => ∃ k : Nat, k ≤ n ∧ i = .int .i64 k ∧ q = .int .i64 (O k) ∧ TRow wr B M (.slice (some ⟨g1, 0, none⟩) n c1) vs (T k) ∧ Mid B M w wr) (fun _ i _ => n - (intOf i).toNat)
    case atStart => exact ⟨0, Nat.zero_le _, rfl, by rw [H00.out], by rw [H0.out]; exact h, Mid.refl _ _ _⟩
    case round =>
      obtain ⟨k, hk, rfl, rfl, hrow, hmd⟩ := hrel
      clear h
      by_cases hlt : k < n
      · obtain ⟨g2, c2, hgv, _, _, q2⟩ := hrow.form (HL.out k) (by omega)
        injection hgv with hgv _ hcv
        injection hgv with hgv
        injection hgv with hgv
        subst hgv hcv
        have e1 := q2 k hlt
        have hr := hrow.row k (by rw [HL.out]; exact hlt)
        rw [HG.out k k hlt, if_neg (by omega)] at hr
        have hbd := HB.out k
        have hrl := HRL.out k hlt
        have HF1 := Lib.hid (HF.out k hlt)
        have HT1 := Lib.hid (HT.out k hlt)
        have HLK := Lib.hid (HL.out k)
        obtain ⟨A1, d1, p1⟩ := hr.shape
        have HMK : Hid (Calls Try.prog 20 #[vs.getD k NilS, .int .i64 (O k)] wr fun e w' => e = .returned (.int .i64 (O (k + 1))) ∧ TRow w' B M (.slice (some ⟨g1, 0, none⟩) n c1) vs (T (k + 1)) ∧ Mid B M w w') := Lib.hid (by
          refine (markInts_any _ _ _ (O k) wr hr (by omega) (by omega)).mono fun e w' ⟨h1, h2, h3⟩ => ?_
          rw [HF1.out]
          refine ⟨h1, ?_, hmd.step h3 (fun q hq => hrow.rowB (by rw [HLK.out]; exact hlt) q hq)⟩
          have := hrow.turn (by rw [HLK.out]; exact hlt) h3 h2
          rwa [HT1.out] at this)
        rw [p1] at e1 HMK
        clear hrow hr hmd p1 q2 HF HB HT HG HRL
        generalize O k = ok at *
        generalize ho1 : O (k + 1) = ok1 at *
        have HO1 := Lib.hid ho1
        clear ho1
        have i1 : (k : Int) < (n : Int) := by omega
        go_wp2_with (go_at_call 20; refine HMK.out.mono ?_; rintro e w' ⟨rfl, hrow2, hmd2⟩)
        go_roundw
        case rel => exact ⟨k + 1, by omega, by go_num, by rw [HO1.out], hrow2, hmd2⟩
        case measure => simp [intOf]; omega
      · go_wp2
        obtain rfl : k = n := by omega
        go_ret
        rw [HE.out]
        exact ⟨rfl, hrow, hmd⟩
set_option maxHeartbeats 800000 in
theorem heldTabs_any (v : Value) (vs : List Value) (xss : List (List Int)) (B M : Nat) (m : Int) (w : World) (h : TRow w B M v vs (tmk m xss xss.length)) (hl : xss.length ≤ 1048576) (hs : xss.flatten.length ≤ 1048576) (hm : 0 ≤ m ∧ m ≤ 1048576) :
    Calls Try.prog 22 #[v, .int .i64 m] w fun e w' => e = .returned (.int .i64 (m + (xss.flatten.length : Int))) ∧ w = w' := by
  by_cases h0 : xss.length = 0
  · obtain ⟨A1, c1, rfl⟩ := h.out.shape
    have hx : xss = [] := List.eq_nil_of_length_eq_zero h0
    subst hx
    rw [h.len, tmk_length]
    clear h h0
    go_enter Try.func22, Try.ntmps22
    go_wp2
    refine wp_loop_rounds 1 ?_; rw [rounds_succ]
    go_wp2
    go_ret
    exact ⟨ret_int (by simp), rfl⟩
  · obtain ⟨g1, c1, rfl, _, _, q1⟩ := h.form (tmk_length m xss xss.length) (by omega)
    have HROW : Hid (∀ k, k < xss.length → IRow w B (vs.getD k NilS) (marks (mof m xss k) (xss.getD k []).length)) := Lib.hid fun k hk => by
      have := h.row k (by rw [tmk_length]; exact hk)
      rwa [tmk_get _ _ _ _ hk, if_pos hk] at this
    have Q1 := Lib.hid q1
    have HF : Hid (∀ k, k < xss.length → mof m xss (k + 1) = mof m xss k + ((xss.getD k []).length : Int)) := Lib.hid (mof_succ m xss)
    have HB := Lib.hid (mof_bd m xss)
    have HE := Lib.hid (mof_full m xss)
    have H00 := Lib.hid (mof_0 m xss)
    clear h q1
    generalize xss.flatten.length = L at *
    generalize hO : mof m xss = O at *
    generalize hn : xss.length = n at *
    clear hO hn
    have HRL : Hid (∀ k, k < n → ((xss.getD k []).length : Int) ≤ L) := Lib.hid fun k hk => by
      have a := HF.out k hk
      have b := HB.out (k + 1)
      have c := HB.out k
      omega
    go_enter Try.func22, Try.ntmps22
    go_wp2
    go_loop [1, 5] (fun q i => ∃ k : Nat, k ≤ n ∧ i = .int .i64 k ∧ q = .int .i64 (O k)) (fun _ i => n - (intOf i).toNat)
    case atStart => exact ⟨0, Nat.zero_le _, rfl, by rw [H00.out]⟩
    case round =>
      obtain ⟨k, hk, rfl, rfl⟩ := hrel
      by_cases hlt : k < n
      · have e1 := Q1.out k hlt
        have hr := HROW.out k hlt
        have hbd := HB.out k
        have hbd1 := HB.out (k + 1)
        have hrl := HRL.out k hlt
        obtain ⟨A1, d1, p1⟩ := hr.shape
        have HMK : Hid (Calls Try.prog 36 #[vs.getD k NilS, .int .i64 (O k)] w fun e w' => e = .returned (.int .i64 (O (k + 1))) ∧ w = w') := Lib.hid (by
          have := heldInts_any _ _ _ (O k) w hr (by omega) (by omega)
          rwa [← HF.out k hlt] at this)
        rw [p1] at e1 HMK
        clear hr p1 HF HB HRL
        generalize O k = ok at *
        generalize ho1 : O (k + 1) = ok1 at *
        have HO1 := Lib.hid ho1
        clear ho1
        have i1 : (k : Int) < (n : Int) := by omega
        have i2 : ¬ ok1 < 0 := by omega
        go_wp2_with (go_at_call 36; refine HMK.out.mono ?_; rintro e w' ⟨rfl, rfl⟩)
        go_round
        case rel => exact ⟨k + 1, by omega, by go_num, by rw [HO1.out]⟩
        case measure => simp [intOf]; omega
      · go_wp2
        obtain rfl : k = n := by omega
        go_ret
        rw [HE.out]
        exact ⟨rfl, rfl⟩
end Go.Proofs.Ytnlcainfkchieaa
