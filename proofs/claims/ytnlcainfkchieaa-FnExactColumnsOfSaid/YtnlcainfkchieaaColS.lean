/- ColumnsOf: both sides. -/
import Derived.Test.YtnlcainfkchieaaResI
import Derived.Test.YtnlcainfkchieaaTaMath
namespace Go.Proofs.Ytnlcainfkchieaa
open Go.RowKit
set_option linter.unusedVariables false
def clV (xs : List Int) : List Int := if clOk xs = true then colS xs 4 0 else []
theorem clV_len (xs : List Int) : (clV xs).length ≤ 4 := by unfold clV; split <;> simp [colS]
theorem cl_of {xs : List Int} (h : clOk xs = true) : xs.length = 4 ∧ ∀ k, k < 4 → ∃ m : Nat, xs.getD k 0 = (m : Int) ∧ m ≤ 4 := by
  unfold clOk at h
  rw [Bool.and_eq_true, decide_eq_true_iff] at h
  obtain ⟨a, b, c, d, rfl, h1, h2, h3, h4⟩ := (resB_iff xs).1 h.1
  have ha : (a : Int) ≤ 4 := h.2
  refine ⟨rfl, fun k hk => ?_⟩
  have : k = 0 ∨ k = 1 ∨ k = 2 ∨ k = 3 := by omega
  rcases this with e | e | e | e <;> subst e
  · exact ⟨a, rfl, by omega⟩
  · exact ⟨b, rfl, by omega⟩
  · exact ⟨c, rfl, by omega⟩
  · exact ⟨d, rfl, by omega⟩
theorem colS_bd (xs : List Int) (i m c : Nat) (h : c < 4) (hl : xs.length = 4) : 0 ≤ (colS xs i m).getD c 0 ∧ (colS xs i m).getD c 0 ≤ 5 := by
  rw [colS_get xs i m c h]
  have := laN_le (c : Int) (xs.take i)
  have h2 : (xs.take i).length ≤ 4 := by rw [List.length_take]; omega
  split <;> omega
set_option maxRecDepth 100000 in
set_option maxHeartbeats 3200000 in
theorem columnsOf_ret (v : Value) (xs : List Int) (w : World) (h : RInts w v xs) (hl : xs.length ≤ 1048576) : Calls Try.prog 35 #[v] w (IntsRet w (clOk xs) (clV xs)) := by
  obtain ⟨i0, hi0, hz0, hz1, hz2⟩ := info_parts intInfo
  have HV := Lib.hid (isResult_any v xs w h hl)
  have H := Lib.hid h
  unfold clV
  rcases Bool.eq_false_or_eq_true (resB xs) with hr | hr
  · have h4 : xs.length = 4 := by
      obtain ⟨a, b, c, d, rfl, _⟩ := (resB_iff xs).1 hr
      rfl
    obtain ⟨g0, o0, cc0, rfl, hg0, hcells0⟩ := h.cells (by omega)
    have HC := Lib.hid hcells0
    rw [hr] at HV
    by_cases h44 : xs.getD 0 0 ≤ 4
    · have HK : clOk xs = true := by unfold clOk; rw [hr, decide_eq_true h44]; rfl
      have HM := Lib.hid (cl_of HK).2
      rw [HK, if_pos rfl]
      have HL4 := Lib.hid h4
      have HSET := Lib.hid (fun i m (hm : m < 4) => colS_set xs i m hm)
      have HBD := Lib.hid (fun i m c (hc : c < 4) => colS_bd xs i m c hc h4)
      have HNX := Lib.hid (fun (i m : Nat) hi (e : xs.getD i 0 = (m : Int)) => colS_next xs i m hi e)
      have e0 := HC.out 0 (by omega)
      rw [Nat.add_zero] at e0
      obtain ⟨x0, hx0⟩ : ∃ x0, x0 = xs.getD 0 0 := ⟨_, rfl⟩
      rw [← hx0] at e0 h44
      have i4 : ¬ 4 < x0 := by omega
      clear h hr HK hcells0 hx0 h44
      rw [h4] at HV ⊢
      clear h4
      go_enter Try.func35, Try.ntmps35
      go_wp2_with (first | (go_at_call 16; refine HV.out.mono ?_; rintro e w1 ⟨rfl, hb1⟩; have e1 := (hb1.cell (p := ⟨g0, o0, none⟩) hg0).trans e0; clear e0) | (refine wpList_make_full _ rfl (.const (.int .i64 4)) (.const (.int .i64 4)) 22 rfl w1.heap.size 3 i0 (.int .i64 0) 1 Try.underlying22 hi0 hz0 hz1 .i64 .i64 _ _ 4 rfl rfl (by omega) (by omega) (by rw [hz2]; omega) (by unfold maxLen; omega) (Nat.le_refl _) ?_; intro w2 hown1 hgrow1))
      have hrow1 : IRow w2 w1.heap.size (.slice (some ⟨w1.heap.size, 0, none⟩) 4 4) (colS xs 0 0) :=
        IRow.of_own hown1 (by rw [colS_len]) (by rw [colS_zero, madeOne _ rfl]; simp)
      have hb2 : Below w1.heap.size w1 w2 := (Below.refl _ _).grown hgrow1 (Nat.le_refl _) (by simp)
      clear hown1 hgrow1 e1
      go_loopw [20] (fun i wr => ∃ k : Nat, k ≤ 4 ∧ i = .int .i64 (k : Int) ∧ IRow wr w1.heap.size (.slice (some ⟨w1.heap.size, 0, none⟩) 4 4) (colS xs k 0) ∧ Below w1.heap.size w1 wr) (fun i _ => 4 - (intOf i).toNat)
      case atStart => exact ⟨0, Nat.zero_le _, rfl, hrow1, hb2⟩
      case round =>
        obtain ⟨k, hk, rfl, hrow, hb⟩ := hrel
        clear hrow1 hb2
        by_cases hlt : k < 4
        · obtain ⟨m, hm, hm4⟩ := HM.out k hlt
          have e1 := (hb.cell (p := ⟨g0, o0 + k, none⟩) (Nat.lt_of_lt_of_le hg0 hb1.size)).trans ((hb1.cell (p := ⟨g0, o0 + k, none⟩) hg0).trans (HC.out k (by have := HL4.out; omega)))
          rw [hm] at e1
          have HNX1 := Lib.hid (HNX.out k m (by have := HL4.out; omega) hm)
          have HROW := Lib.hid hrow
          have HB := Lib.hid hb
          obtain ⟨w0, hw0⟩ : ∃ w0, w0 = wr := ⟨_, rfl⟩
          clear hrow hb HNX hm HM
          go_wp2
          subst hw0
          go_loopw [25] (fun i wr => ∃ j : Nat, j ≤ m ∧ i = .int .i64 (j : Int) ∧ IRow wr w1.heap.size (.slice (some ⟨w1.heap.size, 0, none⟩) 4 4) (colS xs k j) ∧ Below w1.heap.size w1 wr) (fun i _ => m - (intOf i).toNat)
          case atStart => exact ⟨0, Nat.zero_le _, rfl, HROW.out, HB.out⟩
          case round =>
            obtain ⟨j, hj, rfl, hrow, hb⟩ := hrel
            by_cases hlt2 : j < m
            · have hc := hrow.cell (j := j) (by rw [colS_len]; omega)
              have hf := hrow.free j
              have hst := (hrow.set j ((colS xs k j).getD j 0 + 1)).1
              rw [HSET.out k j (by omega)] at hst
              have hbd := HBD.out k j j (by omega)
              have HST := Lib.hid hst
              have HBS := Lib.hid (hb.setCell (p := ⟨w1.heap.size, j, none⟩) (Nat.le_refl _) (.int .i64 ((colS xs k j).getD j 0 + 1)))
              clear hst hrow hb
              generalize (colS xs k j).getD j 0 = y at *
              go_wp2
              go_roundw
              case rel => exact ⟨j + 1, by omega, by go_num, HST.out, HBS.out⟩
              case measure => first | (simp [intOf]; done) | (simp [intOf]; omega)
            · obtain rfl : j = m := by omega
              have HR := Lib.hid hrow
              clear hrow
              go_wp2
              go_roundw
              case rel => exact ⟨k + 1, by omega, by go_num, by rw [HNX1.out]; exact HR.out, hb⟩
              case measure => first | (simp [intOf]; done) | (simp [intOf]; omega)
        · obtain rfl : k = 4 := by omega
          have HR := Lib.hid hrow
          clear hrow
          go_wp2
          go_ret2
          exact ⟨_, rfl, HR.out.mono hb1.size, hb1.trans (hb.mono hb1.size)⟩
    · have HK : clOk xs = false := by unfold clOk; rw [decide_eq_false h44, Bool.and_false]
      rw [HK]
      have e0 := HC.out 0 (by omega)
      rw [Nat.add_zero] at e0
      have i4 : 4 < xs.getD 0 0 := by omega
      generalize xs.getD 0 0 = x0 at *
      clear h hr HK hcells0 h44
      rw [h4] at HV ⊢
      clear h4
      go_enter Try.func35, Try.ntmps35
      go_wp2_with (go_at_call 16; refine HV.out.mono ?_; rintro e w1 ⟨rfl, hb1⟩; have e1 := (hb1.cell (p := ⟨g0, o0, none⟩) hg0).trans e0; clear e0)
      go_ret2
      exact ⟨_, rfl, IRow.nil _ _, hb1⟩
  · have HK : clOk xs = false := by unfold clOk; rw [hr]; rfl
    rw [hr] at HV
    rw [HK]
    obtain ⟨A0, cap, rfl⟩ := h.shape
    clear h hr HK
    go_enter Try.func35, Try.ntmps35
    go_wp2_with (go_at_call 16; refine HV.out.mono ?_; rintro e w1 ⟨rfl, hb1⟩)
    go_ret2
    exact ⟨_, rfl, IRow.nil _ _, hb1⟩
set_option maxRecDepth 100000 in
set_option maxHeartbeats 3200000 in
theorem voColumns_any (g0 o0 cc0 : Nat) (xs : List Int) (w : World) (hK : clOk xs = true) (hg0 : g0 < w.heap.size) (hcells0 : ∀ j, j < xs.length → w.cell? ⟨g0, o0 + j, none⟩ = some (.int .i64 (xs.getD j 0))) :
    Calls Try.prog 59 #[.slice (some ⟨g0, o0, none⟩) 4 cc0] w (IntsNew w (colS xs 4 0)) := by
  obtain ⟨i0, hi0, hz0, hz1, hz2⟩ := info_parts intInfo
  have h4 := (cl_of hK).1
  have HM := Lib.hid (cl_of hK).2
  have HC := Lib.hid hcells0
  have HL4 := Lib.hid h4
  have HSET := Lib.hid (fun i m (hm : m < 4) => colS_set xs i m hm)
  have HBD := Lib.hid (fun i m c (hc : c < 4) => colS_bd xs i m c hc h4)
  have HNX := Lib.hid (fun (i m : Nat) hi (e : xs.getD i 0 = (m : Int)) => colS_next xs i m hi e)
  clear hcells0 h4 hK
  go_enter Try.func59, Try.ntmps59
  go_wp2_with (refine wpList_make_full _ rfl (.const (.int .i64 4)) (.const (.int .i64 4)) 22 rfl w.heap.size 3 i0 (.int .i64 0) 1 Try.underlying22 hi0 hz0 hz1 .i64 .i64 _ _ 4 rfl rfl (by omega) (by omega) (by rw [hz2]; omega) (by unfold maxLen; omega) (Nat.le_refl _) ?_; intro w2 hown1 hgrow1)
  have hrow1 : IRow w2 w.heap.size (.slice (some ⟨w.heap.size, 0, none⟩) 4 4) (colS xs 0 0) :=
    IRow.of_own hown1 (by rw [colS_len]) (by rw [colS_zero, madeOne _ rfl]; simp)
  have hb2 : Below w.heap.size w w2 := (Below.refl _ _).grown hgrow1 (Nat.le_refl _) (by simp)
  clear hown1 hgrow1
  go_loopw [10] (fun i wr => ∃ k : Nat, k ≤ 4 ∧ i = .int .i64 (k : Int) ∧ IRow wr w.heap.size (.slice (some ⟨w.heap.size, 0, none⟩) 4 4) (colS xs k 0) ∧ Below w.heap.size w wr) (fun i _ => 4 - (intOf i).toNat)
  case atStart => exact ⟨0, Nat.zero_le _, rfl, hrow1, hb2⟩
  case round =>
    obtain ⟨k, hk, rfl, hrow, hb⟩ := hrel
    clear hrow1 hb2
    by_cases hlt : k < 4
    · obtain ⟨m, hm, hm4⟩ := HM.out k hlt
      have e1 := (hb.cell (p := ⟨g0, o0 + k, none⟩) hg0).trans (HC.out k (by have := HL4.out; omega))
      rw [hm] at e1
      have HNX1 := Lib.hid (HNX.out k m (by have := HL4.out; omega) hm)
      have HROW := Lib.hid hrow
      have HB := Lib.hid hb
      obtain ⟨w0, hw0⟩ : ∃ w0, w0 = wr := ⟨_, rfl⟩
      clear hrow hb HNX hm HM
      have q1 : decide ((k : Int) < 4) = true := decide_eq_true (by omega)
      go_wp2
      subst hw0
      go_loopw [6] (fun i wr => ∃ j : Nat, j ≤ m ∧ i = .int .i64 (j : Int) ∧ IRow wr w.heap.size (.slice (some ⟨w.heap.size, 0, none⟩) 4 4) (colS xs k j) ∧ Below w.heap.size w wr) (fun i _ => m - (intOf i).toNat)
      case atStart => exact ⟨0, Nat.zero_le _, rfl, HROW.out, HB.out⟩
      case round =>
        obtain ⟨j, hj, rfl, hrow, hb⟩ := hrel
        by_cases hlt2 : j < m
        · have hc := hrow.cell (j := j) (by rw [colS_len]; omega)
          have hf := hrow.free j
          have hst := (hrow.set j ((colS xs k j).getD j 0 + 1)).1
          rw [HSET.out k j (by omega)] at hst
          have hbd := HBD.out k j j (by omega)
          have HST := Lib.hid hst
          have HBS := Lib.hid (hb.setCell (p := ⟨w.heap.size, j, none⟩) (Nat.le_refl _) (.int .i64 ((colS xs k j).getD j 0 + 1)))
          have j4 : j < 4 := by omega
          clear hst hrow hb
          generalize (colS xs k j).getD j 0 = y at *
          go_wp2
          go_roundw
          case rel => exact ⟨j + 1, by omega, by go_num, HST.out, HBS.out⟩
          case measure => first | (simp [intOf]; done) | (simp [intOf]; omega)
        · obtain rfl : j = m := by omega
          have HR := Lib.hid hrow
          clear hrow
          by_cases e4 : j = 4
          · subst e4
            go_wp2
            go_roundw
            case rel => exact ⟨k + 1, by omega, by go_num, by rw [HNX1.out]; exact HR.out, hb⟩
            case measure => first | (simp [intOf]; done) | (simp [intOf]; omega)
          · have j4 : j < 4 := by omega
            go_wp2
            go_roundw
            case rel => exact ⟨k + 1, by omega, by go_num, by rw [HNX1.out]; exact HR.out, hb⟩
            case measure => first | (simp [intOf]; done) | (simp [intOf]; omega)
    · obtain rfl : k = 4 := by omega
      have HR := Lib.hid hrow
      clear hrow
      go_wp2
      go_ret
      exact ⟨_, rfl, HR.out, hb⟩
theorem specColumnsOf_ret (v : Value) (xs : List Int) (w : World) (h : RInts w v xs) (hl : xs.length ≤ 1048576) : Calls Try.prog 34 #[v] w (IntsRet w (clOk xs) (clV xs)) := by
  have HV := Lib.hid (voResult_any v xs w h hl)
  unfold clV
  rcases Bool.eq_false_or_eq_true (resB xs) with hr | hr
  · have h4 : xs.length = 4 := by
      obtain ⟨a, b, c, d, rfl, _⟩ := (resB_iff xs).1 hr
      rfl
    obtain ⟨g0, o0, cc0, rfl, hg0, hcells0⟩ := h.cells (by omega)
    have HC := Lib.hid hcells0
    rw [hr] at HV
    have e0 := HC.out 0 (by omega)
    rw [Nat.add_zero] at e0
    by_cases h44 : xs.getD 0 0 ≤ 4
    · have HK : clOk xs = true := by unfold clOk; rw [hr, decide_eq_true h44]; rfl
      rw [HK, if_pos rfl]
      have HVC : Hid (∀ w1, Below w.heap.size w w1 → Calls Try.prog 59 #[.slice (some ⟨g0, o0, none⟩) 4 cc0] w1 (IntsNew w1 (colS xs 4 0))) := Lib.hid fun w1 hb => voColumns_any g0 o0 cc0 xs w1 HK (Nat.lt_of_lt_of_le hg0 hb.size) (fun j hj => (hb.cell (p := ⟨g0, o0 + j, none⟩) hg0).trans (hcells0 j hj))
      have i4 : ¬ 4 < xs.getD 0 0 := by omega
      generalize xs.getD 0 0 = x0 at *
      clear h hr HK hcells0 h44
      rw [h4] at HV ⊢
      clear h4
      go_enter Try.func34, Try.ntmps34
      go_wp2_with (first | (go_at_call 42; refine HV.out.mono ?_; rintro e w1 ⟨rfl, hb1⟩; have e1 := (hb1.cell (p := ⟨g0, o0, none⟩) hg0).trans e0; clear e0) | (go_at_call 59; refine (HVC.out _ hb1).mono ?_; rintro e w2 ⟨v2, rfl, hr2, hb2⟩))
      go_ret2
      exact ⟨_, rfl, hr2.mono hb1.size, hb1.trans (hb2.mono hb1.size)⟩
    · have HK : clOk xs = false := by unfold clOk; rw [decide_eq_false h44, Bool.and_false]
      rw [HK]
      have i4 : 4 < xs.getD 0 0 := by omega
      generalize xs.getD 0 0 = x0 at *
      clear h hr HK hcells0 h44
      rw [h4] at HV ⊢
      clear h4
      go_enter Try.func34, Try.ntmps34
      go_wp2_with (go_at_call 42; refine HV.out.mono ?_; rintro e w1 ⟨rfl, hb1⟩; have e1 := (hb1.cell (p := ⟨g0, o0, none⟩) hg0).trans e0; clear e0)
      go_ret2
      exact ⟨_, rfl, IRow.nil _ _, hb1⟩
  · have HK : clOk xs = false := by unfold clOk; rw [hr]; rfl
    rw [hr] at HV
    rw [HK]
    obtain ⟨A0, cap, rfl⟩ := h.shape
    clear h hr HK
    go_enter Try.func34, Try.ntmps34
    go_wp2_with (go_at_call 42; refine HV.out.mono ?_; rintro e w1 ⟨rfl, hb1⟩)
    go_ret2
    exact ⟨_, rfl, IRow.nil _ _, hb1⟩
end Go.Proofs.Ytnlcainfkchieaa
