/- Pack 9 of what FnExactFirstApart needs: ToCs, ToC2. -/
import Derived.Test.YtnlmjeakdjmohaaKFnExactFirstApart8
/- The laws' copies of cells. -/
namespace Go.Proofs.Ytnlmjeakdjmohaa
open Go.RowKit
set_option linter.unusedVariables false
def cpF (xs : List Int) (k j : Nat) : Int := if j < k * 2 then xs.getD j 0 else 0
theorem fr_ext {f g : Nat → Int} {n : Nat} (h : ∀ j, j < n → f j = g j) : fr f n = fr g n := by
  apply List.ext_getElem?
  intro j
  rcases Nat.lt_or_ge j n with hj | hj
  · have h1 := fr_get f n j hj
    have h2 := fr_get g n j hj
    rw [List.getD_eq_getElem?_getD] at h1 h2
    rw [List.getElem?_eq_getElem (by rw [fr_length]; exact hj), Option.getD_some] at h1 h2
    rw [List.getElem?_eq_getElem (by rw [fr_length]; exact hj), List.getElem?_eq_getElem (by rw [fr_length]; exact hj), h1, h2, h j hj]
  · rw [List.getElem?_eq_none (by rw [fr_length]; exact hj), List.getElem?_eq_none (by rw [fr_length]; exact hj)]
theorem cpF_zero (xs : List Int) (n : Nat) : List.replicate (n * 2) (0 : Int) = fr (cpF xs 0) (n * 2) := by
  apply List.ext_getElem?
  intro j
  rcases Nat.lt_or_ge j (n * 2) with hj | hj
  · have h1 := fr_get (cpF xs 0) (n * 2) j hj
    rw [List.getD_eq_getElem?_getD, List.getElem?_eq_getElem (by rw [fr_length]; exact hj), Option.getD_some] at h1
    rw [List.getElem?_replicate, if_pos hj, List.getElem?_eq_getElem (by rw [fr_length]; exact hj), h1]
    simp [cpF]
  · rw [List.getElem?_eq_none (by simpa using hj), List.getElem?_eq_none (by rw [fr_length]; exact hj)]
theorem cpF_set (xs : List Int) {n k : Nat} (hk : k < n) : ((fr (cpF xs k) (n * 2)).set (k * 2) (xs.getD (k * 2) 0)).set (k * 2 + 1) (xs.getD (k * 2 + 1) 0) = fr (cpF xs (k + 1)) (n * 2) := by
  obtain ⟨p, hp⟩ : ∃ p, xs.getD (k * 2) 0 = p := ⟨_, rfl⟩
  obtain ⟨q, hq⟩ : ∃ q, xs.getD (k * 2 + 1) 0 = q := ⟨_, rfl⟩
  rw [hp, hq]
  have hlen : ∀ f : Nat → Int, (fr f (n * 2)).length = n * 2 := fun f => fr_length f _
  apply List.ext_getElem (by simp [hlen])
  intro j h1 h2
  have hj : j < n * 2 := by rw [hlen] at h2; exact h2
  have g0 : ∀ f : Nat → Int, ∀ h : j < (fr f (n * 2)).length, (fr f (n * 2))[j] = f j := fun f h => by simp [fr]
  rw [List.getElem_set, List.getElem_set, g0]
  split
  · next e => subst e; rw [← hq, g0]; exact (if_pos (show k * 2 + 1 < (k + 1) * 2 by omega)).symm
  · split
    · next e => subst e; rw [← hp, g0]; exact (if_pos (show k * 2 < (k + 1) * 2 by omega)).symm
    · rw [g0]
      unfold cpF
      by_cases h : j < k * 2
      · rw [if_pos h, if_pos (by omega)]
      · rw [if_neg h, if_neg (by omega)]
theorem CRow.rcels {w : World} {B n : Nat} {v : Value} {ys xs : List Int} (h : CRow w B v n ys) (hr : ∀ A k c, v = .slice A k c → k ≤ c ∧ c ≤ maxLen) (he : ∀ j, j < n * 2 → ys.getD j 0 = xs.getD j 0) : RCels w v n xs := by
  refine ⟨h.shape, hr, fun hx => ?_⟩
  obtain ⟨g, c, rfl, _, hg⟩ := h.form hx
  exact ⟨g, 0, c, rfl, hg, fun j hj => by rw [Nat.zero_add, ← he j hj]; exact h.cell hj⟩
set_option maxRecDepth 100000 in
set_option maxHeartbeats 2000000 in
theorem toCellS_any (v : Value) (n : Nat) (xs : List Int) (w : World) (h : RCels w v n xs) (hl : n ≤ 1048576) :
    Calls Try.prog 23 #[v] w fun e w' => ∃ u, e = .returned u ∧ RCels w' u n xs ∧ Below w.heap.size w w' := by
  obtain ⟨A0, cap, rfl⟩ := h.shape
  have H := Lib.hid h
  clear h
  have HT : Hid (∀ a b w, Calls Try.prog 31 #[.agg #[.int .i64 a, .int .i64 b]] w (Ret w (.agg #[.int .i64 a, .int .i64 b]))) := Lib.hid toCell_any
  obtain ⟨i0, hi0, hz0, hz1, hz2⟩ := info_parts celInfo
  go_enter Try.func23, Try.ntmps23
  go_wp2_with (refine wpList_make_full _ rfl (.tmp 6) (.tmp 6) 27 rfl w.heap.size 39 i0 _ 2 Try.underlying27 hi0 hz0 hz1 .i64 .i64 _ _ n rfl rfl (by omega) (by omega) (by rw [hz2]; omega) (by unfold maxLen; omega) (Nat.le_refl _) ?_; intro w1 hown1 hgrow1)
  have hrow1 : CRow w1 w.heap.size (.slice (some ⟨w.heap.size, 0, none⟩) n n) n (fr (cpF xs 0) (n * 2)) := by
    refine ⟨?_, by rw [fr_length]⟩
    rw [← cpF_zero, ← made_pairsC]
    exact hown1
  have hb1 : Below w.heap.size w w1 := (Below.refl _ _).grown hgrow1 (Nat.le_refl _) (by simp)
  clear hown1 hgrow1
  go_loopw [4] (fun i wr => ∃ k : Nat, k ≤ n ∧ i = .int .i64 (k : Int) ∧ CRow wr w.heap.size (.slice (some ⟨w.heap.size, 0, none⟩) n n) n (fr (cpF xs k) (n * 2)) ∧ Below w.heap.size w wr) (fun i _ => n - (intOf i).toNat)
  case atStart => exact ⟨0, Nat.zero_le _, rfl, hrow1, hb1⟩
  case round =>
    obtain ⟨k, hk, rfl, hrow, hb⟩ := hrel
    clear hrow1 hb1
    by_cases hlt : k < n
    · obtain ⟨g, o, c, e1, hg, _⟩ := H.out.cells (by omega)
      injection e1 with e1 _ e3
      subst e1 e3
      have hr : RCels wr (.slice (some ⟨g, o, none⟩) n cap) n xs := H.out.below hb
      obtain ⟨g', o', c', e, _, hc⟩ := hr.cells (by omega)
      injection e with e _ e3
      injection e with e
      injection e with e4 e5
      subst e4 e5
      have c0 := hc (k * 2) (by omega)
      have c1 := hc (k * 2 + 1) (by omega)
      rw [← Nat.add_assoc] at c1
      have i1 : (k : Int) < (n : Int) := by omega
      have i2 : 0 ≤ (k : Int) := by omega
      have HSN := Lib.hid (cpF_set xs hlt)
      have HROW := Lib.hid hrow
      have HB := Lib.hid hb
      clear hc hr hrow hb e3
      generalize xs.getD (k * 2) 0 = x at *
      generalize xs.getD (k * 2 + 1) 0 = y at *
      go_wp2_with (go_at_call 31; refine (HT.out _ _ _).mono ?_; rintro e wz ⟨rfl, hbz⟩; have hrz := HROW.out.below hbz; have s0 := hrz.cell (j := k * 2) (by omega); have s1 := hrz.cell (j := k * 2 + 1) (by omega); have s2 := hrz.free (k * 2); have s3 := hrz.free (k * 2 + 1); have HRZ := Lib.hid hrz; have HBZ := Lib.hid (HB.out.trans (hbz.mono HB.out.size)); clear hrz hbz)
      have HST := Lib.hid ((HRZ.out.set (k * 2) x).1.set (k * 2 + 1) y).1
      rw [HSN.out] at HST
      go_roundw
      case rel => exact ⟨k + 1, by omega, by go_num, HST.out, (HBZ.out.setCell (p := ⟨w.heap.size, k * 2, none⟩) (Nat.le_refl _) _).setCell (p := ⟨w.heap.size, k * 2 + 1, none⟩) (Nat.le_refl _) _⟩
      case measure => first | (simp [intOf]; done) | (simp [intOf]; omega)
    · obtain rfl : k = n := by omega
      have HR := Lib.hid (CRow.rcels (xs := xs) hrow (fun A j c e => by injection e with e1 e2 e3; subst e2 e3; exact ⟨Nat.le_refl _, by unfold maxLen; omega⟩) (fun j hj => by rw [fr_get _ _ _ hj]; exact if_pos hj))
      have HB := Lib.hid hb
      clear hrow hb
      go_wp2_with fail
      go_ret
      exact ⟨_, rfl, HR.out, HB.out⟩
end Go.Proofs.Ytnlmjeakdjmohaa

/- The laws' copies of cells, as rows of the call's own. -/
namespace Go.Proofs.Ytnlmjeakdjmohaa
open Go.RowKit
set_option linter.unusedVariables false
/-- what a copy holds -/
def ccp (xs : List Int) (n : Nat) : List Int := fr (cpF xs n) (n * 2)
def CsNew (w : World) (n : Nat) (xs : List Int) (e : Ending) (w' : World) : Prop := ∃ u, e = .returned u ∧ CRow w' w.heap.size u n xs ∧ Below w.heap.size w w'
theorem crow_rcels {w : World} {B n : Nat} {u : Value} {xs : List Int} (h : CRow w B u n (ccp xs n)) : RCels w u n xs := by
  refine CRow.rcels h (fun A k c e => ?_) (fun j hj => by unfold ccp; rw [fr_get _ _ _ hj]; exact if_pos hj)
  rcases h.1.2 with ⟨h1, h0⟩ | ⟨g, cap, cur, h1, _, _, h2, h3, _⟩
  · rw [h1] at e
    injection e with e1 e2 e3
    subst e2 e3
    exact ⟨Nat.le_refl _, by simp [maxLen]⟩
  · rw [h1] at e
    injection e with e1 e2 e3
    subst e2 e3
    exact ⟨h2, h3⟩
set_option maxRecDepth 100000 in
set_option maxHeartbeats 2000000 in
theorem toCellS_row (v : Value) (n : Nat) (xs : List Int) (w : World) (h : RCels w v n xs) (hl : n ≤ 1048576) :
    Calls Try.prog 23 #[v] w (CsNew w n (ccp xs n)) := by
  obtain ⟨A0, cap, rfl⟩ := h.shape
  have H := Lib.hid h
  clear h
  have HT : Hid (∀ a b w, Calls Try.prog 31 #[.agg #[.int .i64 a, .int .i64 b]] w (Ret w (.agg #[.int .i64 a, .int .i64 b]))) := Lib.hid toCell_any
  obtain ⟨i0, hi0, hz0, hz1, hz2⟩ := info_parts celInfo
  go_enter Try.func23, Try.ntmps23
  go_wp2_with (refine wpList_make_full _ rfl (.tmp 6) (.tmp 6) 27 rfl w.heap.size 39 i0 _ 2 Try.underlying27 hi0 hz0 hz1 .i64 .i64 _ _ n rfl rfl (by omega) (by omega) (by rw [hz2]; omega) (by unfold maxLen; omega) (Nat.le_refl _) ?_; intro w1 hown1 hgrow1)
  have hrow1 : CRow w1 w.heap.size (.slice (some ⟨w.heap.size, 0, none⟩) n n) n (fr (cpF xs 0) (n * 2)) := by
    refine ⟨?_, by rw [fr_length]⟩
    rw [← cpF_zero, ← made_pairsC]
    exact hown1
  have hb1 : Below w.heap.size w w1 := (Below.refl _ _).grown hgrow1 (Nat.le_refl _) (by simp)
  clear hown1 hgrow1
  go_loopw [4] (fun i wr => ∃ k : Nat, k ≤ n ∧ i = .int .i64 (k : Int) ∧ CRow wr w.heap.size (.slice (some ⟨w.heap.size, 0, none⟩) n n) n (fr (cpF xs k) (n * 2)) ∧ Below w.heap.size w wr) (fun i _ => n - (intOf i).toNat)
  case atStart => exact ⟨0, Nat.zero_le _, rfl, hrow1, hb1⟩
  case round =>
    obtain ⟨k, hk, rfl, hrow, hb⟩ := hrel
    clear hrow1 hb1
    by_cases hlt : k < n
    · obtain ⟨g, o, c, e1, hg, _⟩ := H.out.cells (by omega)
      injection e1 with e1 _ e3
      subst e1 e3
      have hr : RCels wr (.slice (some ⟨g, o, none⟩) n cap) n xs := H.out.below hb
      obtain ⟨g', o', c', e, _, hc⟩ := hr.cells (by omega)
      injection e with e _ e3
      injection e with e
      injection e with e4 e5
      subst e4 e5
      have c0 := hc (k * 2) (by omega)
      have c1 := hc (k * 2 + 1) (by omega)
      rw [← Nat.add_assoc] at c1
      have i1 : (k : Int) < (n : Int) := by omega
      have i2 : 0 ≤ (k : Int) := by omega
      have HSN := Lib.hid (cpF_set xs hlt)
      have HROW := Lib.hid hrow
      have HB := Lib.hid hb
      clear hc hr hrow hb e3
      generalize xs.getD (k * 2) 0 = x at *
      generalize xs.getD (k * 2 + 1) 0 = y at *
      go_wp2_with (go_at_call 31; refine (HT.out _ _ _).mono ?_; rintro e wz ⟨rfl, hbz⟩; have hrz := HROW.out.below hbz; have s0 := hrz.cell (j := k * 2) (by omega); have s1 := hrz.cell (j := k * 2 + 1) (by omega); have s2 := hrz.free (k * 2); have s3 := hrz.free (k * 2 + 1); have HRZ := Lib.hid hrz; have HBZ := Lib.hid (HB.out.trans (hbz.mono HB.out.size)); clear hrz hbz)
      have HST := Lib.hid ((HRZ.out.set (k * 2) x).1.set (k * 2 + 1) y).1
      rw [HSN.out] at HST
      go_roundw
      case rel => exact ⟨k + 1, by omega, by go_num, HST.out, (HBZ.out.setCell (p := ⟨w.heap.size, k * 2, none⟩) (Nat.le_refl _) _).setCell (p := ⟨w.heap.size, k * 2 + 1, none⟩) (Nat.le_refl _) _⟩
      case measure => first | (simp [intOf]; done) | (simp [intOf]; omega)
    · obtain rfl : k = n := by omega
      have HR := Lib.hid hrow
      have HB := Lib.hid hb
      clear hrow hb
      go_wp2_with fail
      go_ret
      exact ⟨_, rfl, HR.out, HB.out⟩
set_option maxHeartbeats 800000 in
theorem markCels_big (v : Value) (n : Nat) (xs : List Int) (B : Nat) (m : Int) (w : World) (h1 : CRow w B v n xs) (hl : n ≤ 1048576) (hm : 0 ≤ m ∧ m ≤ 8388608) :
    Calls Try.prog 27 #[v, .int .i64 m] w fun e w' => e = .returned (.int .i64 (m + n * 2)) ∧ CRow w' B v n (marks m (n * 2)) ∧ w.grownBy w' v.ownBlock := by
  by_cases h0 : n = 0
  · subst h0
    obtain ⟨A1, c1, rfl⟩ := h1.shape
    obtain rfl : xs = [] := List.eq_nil_of_length_eq_zero (by have := h1.2; omega)
    have H1 := Lib.hid h1
    clear h1
    go_enter Try.func27, Try.ntmps27
    go_wp2
    refine wp_loop_rounds 1 ?_; rw [rounds_succ]
    go_wp2
    go_ret
    exact ⟨ret_int (by simp), H1.out, grown_refl' _ _⟩
  · obtain ⟨g1, c1, rfl, _, _⟩ := h1.form (by omega)
    have hs : Marked xs m (n * 2) 0 := Marked.zero m h1.2
    go_enter Try.func27, Try.ntmps27
    go_wp2
    go_loopw [1, 5] (fun q i wr => ∃ k : Nat, k ≤ n ∧ i = .int .i64 k ∧ q = .int .i64 (m + k * 2) ∧ ∃ ys, Marked ys m (n * 2) (k * 2) ∧ CRow wr B (.slice (some ⟨g1, 0, none⟩) n c1) n ys ∧ w.grownBy wr (some g1)) (fun _ i _ => n - (intOf i).toNat)
    case atStart => exact ⟨0, Nat.zero_le _, rfl, by go_num, xs, hs, h1, grown_refl' _ _⟩
    case round =>
      obtain ⟨k, hk, rfl, rfl, ys, hmk, hrow, hg⟩ := hrel
      by_cases hlt : k < n
      · have e1 := hrow.cell (j := k * 2) (by omega)
        have e2 := hrow.free (k * 2)
        have e3 := hrow.cell (j := k * 2 + 1) (by omega)
        have e4 := hrow.free (k * 2 + 1)
        have hst := hrow.set (k * 2) (m + (k * 2 : Nat))
        have hst2 := hst.1.set (k * 2 + 1) (m + (k * 2 + 1 : Nat))
        have hmk2 := (hmk.succ (by omega)).succ (by omega)
        have hgg := grown_trans' (grown_trans' hg hst.2) hst2.2
        rw [show m + ((k * 2 : Nat) : Int) = m + (k : Int) * 2 by omega, show m + ((k * 2 + 1 : Nat) : Int) = m + (k : Int) * 2 + 1 by omega] at hst2 hgg hmk2
        have HST := Lib.hid hst2
        have HMK := Lib.hid hmk2
        have HG := Lib.hid hgg
        clear hst hst2 hmk2 hrow hmk hg hgg
        go_wp2
        go_roundw
        case rel => exact ⟨k + 1, by omega, by go_num, by go_num, _, (by have := HMK.out; rwa [show k * 2 + 1 + 1 = (k + 1) * 2 by omega] at this), HST.out.1, HG.out⟩
        case measure => simp [intOf]; omega
      · go_wp2
        obtain rfl : k = n := by omega
        go_ret
        exact ⟨rfl, by rw [← hmk.full rfl]; exact hrow, hg⟩
end Go.Proofs.Ytnlmjeakdjmohaa
