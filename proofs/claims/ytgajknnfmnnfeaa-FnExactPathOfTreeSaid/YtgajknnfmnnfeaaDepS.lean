/- The model's cyDepths, DepthsOf, ParentsOf. -/
import Derived.Test.YtgajknnfmnnfeaaParS
import Derived.Test.YtgajknnfmnnfeaaForV
namespace Go.Proofs.Ytgajknnfmnnfeaa
open Go.RowKit
set_option linter.unusedVariables false
set_option maxHeartbeats 1600000 in
theorem cyDepths_ret (v : Value) (xs : List Int) (w : World) (h : RInts w v xs) (hv : forV xs = true) :
    Calls Try.prog 73 #[v] w (IntsNew w (depV xs)) := by
  obtain ⟨A, cap, rfl⟩ := h.shape
  obtain ⟨i0, hi, hz0, hz1, hz2⟩ := info_parts intInfo
  have hd : degB xs = true := by unfold forV at hv; rw [Bool.and_eq_true] at hv; exact hv.1
  have hn := (degB_of hd).1
  have hx0 : 0 < xs.length := hn.1
  have HP : Hid (∀ w1, Below w.heap.size w w1 → Calls Try.prog 70 #[.slice A xs.length cap] w1 (IntsNew w1 (parV xs))) := Lib.hid fun w1 hb => by
    rw [parV_of hv]
    exact cyParents_ret _ xs w1 (h.below hb) hd
  rw [depV_yes hv]
  clear h hd
  have hlen := parV_length hv
  have HB := Lib.hid (fun k hk => parV_bd hv k hk)
  have HY := Lib.hid (fun k => dSt_yes (ps := parV xs) (n := xs.length) (k := k))
  have HN := Lib.hid (fun k => dSt_no (ps := parV xs) (n := xs.length) (k := k))
  have HD := Lib.hid (dSt_bd (parV xs) xs.length)
  have HLN := Lib.hid (dSt_length (parV xs) xs.length)
  have H0 : Hid (dSt (parV xs) xs.length 0 = List.replicate xs.length 0) := Lib.hid rfl
  generalize hps : parV xs = ps at *
  clear hps hv
  generalize dSt ps xs.length = D at *
  have H0 : Hid (D 0 = List.replicate xs.length 0) := H0
  go_enter Try.func73, Try.ntmps73
  go_wp2_with (first | (go_at_call 70; refine (HP.out _ hbX).mono ?_; rintro e w1 ⟨v0, rfl, hr0, hb0⟩; obtain ⟨g0, c0, rfl, hg0B, hg0⟩ := hr0.form' hlen (by omega)) | (refine wpList_make_full _ rfl (.tmp 7) (.tmp 7) 22 rfl w.heap.size 3 i0 (.int .i64 0) 1 Try.underlying22 hi hz0 hz1 .i64 .i64 _ _ xs.length rfl rfl (by omega) (by omega) (by rw [hz2]; omega) (by unfold maxLen; omega) (Nat.le_refl _) ?_; intro w0 hown0 hgrow0; have hbX : Below w.heap.size w w0 := (Below.refl _ _).grown hgrow0 (Nat.le_refl _) (by simp)))
  have hrow0 : IRow w0 w.heap.size (.slice (some ⟨w.heap.size, 0, none⟩) xs.length xs.length) (List.replicate xs.length 0) :=
    IRow.of_own hown0 (by simp) (by rw [madeOne _ rfl]; simp)
  have hlt0 := hrow0.lt.2
  have hrow1 := hrow0.below hb0
  have hps1 : IRow w1 w.heap.size (.slice (some ⟨g0, 0, none⟩) xs.length c0) ps := hr0.mono (by omega)
  have hb1 : Below w.heap.size w w1 := hbX.trans (hb0.mono hbX.size)
  clear hown0 hgrow0 hr0 hb0 hrow0 hbX
  go_loopw [4, 5, 12] (fun q1 q2 i wr => ∃ k : Nat, k ≤ xs.length ∧ i = .int .i64 (k : Int) ∧ IRow wr w.heap.size (.slice (some ⟨w.heap.size, 0, none⟩) xs.length xs.length) (D k) ∧ IRow wr w.heap.size (.slice (some ⟨g0, 0, none⟩) xs.length c0) ps ∧ Below w.heap.size w wr) (fun _ _ i _ => xs.length - (intOf i).toNat)
  case atStart => exact ⟨0, by omega, rfl, by rw [H0.out]; exact hrow1, hps1, hb1⟩
  case round =>
    obtain ⟨k, hk, rfl, hrow, hpr, hb⟩ := hrel
    clear hrow1 hps1 hb1
    by_cases hlt : k < xs.length
    · have e1 := hpr.cell (j := k) (by omega)
      have hbd := HB.out k hlt
      have HY1 := Lib.hid (HY.out k)
      have HN1 := Lib.hid (HN.out k)
      have hk20 : k ≤ 1048576 := by omega
      clear HY HN
      generalize ps.getD k 0 = p at *
      by_cases hp : 0 ≤ p
      · obtain ⟨j, rfl⟩ := Int.eq_ofNat_of_zero_le hp
        have HY2 := Lib.hid (HY1.out hp)
        rw [Int.toNat_natCast] at HY2
        have hD := HD.out k j
        have e2 := hrow.cell (j := j) (by rw [HLN.out]; omega)
        have f2 := hrow.free k
        have e3 := hrow.cell (j := k) (by rw [HLN.out]; omega)
        have HST := Lib.hid (hrow.set k ((D k).getD j 0 + 1))
        rw [HY2.out] at HST
        have HPR := Lib.hid (hpr.apart (r := some w.heap.size) HST.out.2 (fun q hq e => by have q1 : some g0 = some q := hq; injection q1 with q1; injection e with e; omega))
        have HB1 := Lib.hid (hb.setCell (p := ⟨w.heap.size, k, none⟩) (Nat.le_refl _) (.int .i64 ((D k).getD j 0 + 1)))
        clear hrow hpr hb HY1 HN1 HY2
        generalize (D k).getD j 0 = y at *
        generalize (D k).getD k 0 = y0 at *
        go_wp2_with fail
        go_roundw
        case rel => exact ⟨k + 1, by omega, by go_num, HST.out.1, HPR.out, HB1.out⟩
        case measure => first | (simp [intOf]; done) | (simp [intOf]; omega)
      · have HN2 := Lib.hid (HN1.out (by omega))
        rw [HN2.out] at hrow
        clear HY1 HN1
        go_wp2_with fail
        go_roundw
        case rel => exact ⟨k + 1, by omega, by go_num, hrow, hpr, hb⟩
        case measure => first | (simp [intOf]; done) | (simp [intOf]; omega)
    · have hk2 : k = xs.length := by omega
      subst hk2
      go_wp2_with fail
      go_ret
      exact ⟨_, rfl, hrow, hb⟩
theorem specDepthsOf_ret (v : Value) (xs : List Int) (w : World) (h : RInts w v xs) (hl : xs.length ≤ 1048576) :
    Calls Try.prog 40 #[v] w (IntsRet w (forV xs) (depV xs)) := by
  have HI := Lib.hid (cyIs_any v xs w h hl)
  rcases Bool.eq_false_or_eq_true (forV xs) with hv | hv
  · have HP := Lib.hid (cyDepths_ret v xs w h hv)
    rw [hv] at HI
    rw [hv]
    clear h hv
    go_enter Try.func40, Try.ntmps40
    go_wp2_with (first | (go_at_call 66; refine HI.out.mono ?_; rintro e w' ⟨rfl, rfl⟩) | (go_at_call 73; refine HP.out.mono ?_; rintro e w1 ⟨v1, rfl, hr1, hb1⟩))
    go_ret2
    exact ⟨_, rfl, hr1, hb1⟩
  · rw [hv] at HI
    rw [depV_no hv, hv]
    clear h hv
    go_enter Try.func40, Try.ntmps40
    go_wp2_with (go_at_call 66; refine HI.out.mono ?_; rintro e w' ⟨rfl, rfl⟩)
    go_ret2
    exact ⟨_, rfl, IRow.nil _ _, Below.refl _ _⟩
theorem specParentsOf_ret (v : Value) (xs : List Int) (w : World) (h : RInts w v xs) (hl : xs.length ≤ 1048576) :
    Calls Try.prog 38 #[v] w (IntsRet w (forV xs) (parV xs)) := by
  have HI := Lib.hid (cyIs_any v xs w h hl)
  rcases Bool.eq_false_or_eq_true (forV xs) with hv | hv
  · have hd : degB xs = true := by unfold forV at hv; rw [Bool.and_eq_true] at hv; exact hv.1
    have HP := Lib.hid (cyParents_ret v xs w h hd)
    rw [hv] at HI
    rw [← parV_of hv] at HP
    rw [hv]
    clear h hv hd
    go_enter Try.func38, Try.ntmps38
    go_wp2_with (first | (go_at_call 66; refine HI.out.mono ?_; rintro e w' ⟨rfl, rfl⟩) | (go_at_call 70; refine HP.out.mono ?_; rintro e w1 ⟨v1, rfl, hr1, hb1⟩))
    go_ret2
    exact ⟨_, rfl, hr1, hb1⟩
  · have e : parV xs = [] := by unfold parV; rw [dif_neg (by rw [hv]; simp)]
    rw [hv] at HI
    rw [hv, e]
    clear h hv e
    go_enter Try.func38, Try.ntmps38
    go_wp2_with (go_at_call 66; refine HI.out.mono ?_; rintro e w' ⟨rfl, rfl⟩)
    go_ret2
    exact ⟨_, rfl, IRow.nil _ _, Below.refl _ _⟩
end Go.Proofs.Ytgajknnfmnnfeaa
