/- The program's DepthsOf. -/
import Derived.Test.YtgajknnfmnnfeaaParI
namespace Go.Proofs.Ytgajknnfmnnfeaa
open Go.RowKit
set_option linter.unusedVariables false
set_option maxHeartbeats 1600000 in
theorem depthsOf_ret (v : Value) (xs : List Int) (w : World) (h : RInts w v xs) (hl : xs.length ≤ 1048576) :
    Calls Try.prog 41 #[v] w (IntsRet w (forV xs) (depV xs)) := by
  obtain ⟨A, cap, rfl⟩ := h.shape
  obtain ⟨i0, hi, hz0, hz1, hz2⟩ := info_parts intInfo
  have HP := Lib.hid (parentsOf_ret _ xs w h hl)
  clear h
  rcases Bool.eq_false_or_eq_true (forV xs) with hv | hv
  · rw [depV_yes hv, hv]
    rw [hv] at HP
    have hlen := parV_length hv
    have hx0 : 0 < xs.length := by have hd : degB xs = true := by unfold forV at hv; rw [Bool.and_eq_true] at hv; exact hv.1
                                   exact (degB_of hd).1.1
    have HB := Lib.hid (fun k hk => parV_bd hv k hk)
    have HY := Lib.hid (fun k => dSt_yes (ps := parV xs) (n := xs.length) (k := k))
    have HN := Lib.hid (fun k => dSt_no (ps := parV xs) (n := xs.length) (k := k))
    have HD := Lib.hid (dSt_bd (parV xs) xs.length)
    have HLN := Lib.hid (dSt_length (parV xs) xs.length)
    have H0 : Hid (dSt (parV xs) xs.length 0 = List.replicate xs.length 0) := Lib.hid rfl
    generalize hps : parV xs = ps at *
    clear hps hv
    generalize dSt ps xs.length = D at *
    have H0 : Hid (D 0 = List.replicate xs.length 0) := H0
    go_enter Try.func41, Try.ntmps41
    go_wp2_with (first | (go_at_call 39; refine HP.out.mono ?_; rintro e w0 ⟨v0, rfl, hr0, hb0⟩; obtain ⟨g0, c0, rfl, hg0B, hg0⟩ := hr0.form' hlen (by omega); have hb0s := hb0.size) | (refine wpList_make_full _ rfl (.tmp 17) (.tmp 17) 22 rfl w.heap.size 3 i0 (.int .i64 0) 1 Try.underlying22 hi hz0 hz1 .i64 .i64 _ _ xs.length rfl rfl (by omega) (by omega) (by rw [hz2]; omega) (by unfold maxLen; omega) hb0s ?_; intro w1 hown1 hgrow1))
    have hrow1 : IRow w1 w.heap.size (.slice (some ⟨w0.heap.size, 0, none⟩) xs.length xs.length) (List.replicate xs.length 0) :=
      IRow.of_own hown1 (by simp) (by rw [madeOne _ rfl]; simp)
    have hps1 : IRow w1 w.heap.size (.slice (some ⟨g0, 0, none⟩) xs.length c0) ps := hr0.apart hgrow1 (fun q hq e => by cases e)
    have hb1 : Below w.heap.size w w1 := hb0.grown hgrow1 hb0s (by simp)
    clear hown1 hgrow1 hr0 hb0
    go_loopw [7, 8, 21] (fun q1 q2 i wr => ∃ k : Nat, k ≤ xs.length ∧ i = .int .i64 (k : Int) ∧ IRow wr w.heap.size (.slice (some ⟨w0.heap.size, 0, none⟩) xs.length xs.length) (D k) ∧ IRow wr w.heap.size (.slice (some ⟨g0, 0, none⟩) xs.length c0) ps ∧ Below w.heap.size w wr) (fun _ _ i _ => xs.length - (intOf i).toNat)
    case atStart => exact ⟨0, by omega, rfl, by rw [H0.out]; exact hrow1, hps1, hb1⟩
    case round =>
      obtain ⟨k, hk, rfl, hrow, hpr, hb⟩ := hrel
      clear hrow1 hps1 hb1
      by_cases hlt : k < xs.length
      · have e1 := hpr.cell (j := k) (by omega)
        have hbd := HB.out k hlt
        have HY1 := Lib.hid (HY.out k)
        have HN1 := Lib.hid (HN.out k)
        have hk20 : k ≤ 1048576 := by omega
        clear HY HN
        generalize ps.getD k 0 = p at *
        by_cases hp : 0 ≤ p
        · obtain ⟨j, rfl⟩ := Int.eq_ofNat_of_zero_le hp
          have HY2 := Lib.hid (HY1.out hp)
          rw [Int.toNat_natCast] at HY2
          have hD := HD.out k j
          have e2 := hrow.cell (j := j) (by rw [HLN.out]; omega)
          have f2 := hrow.free k
          have e3 := hrow.cell (j := k) (by rw [HLN.out]; omega)
          have HST := Lib.hid (hrow.set k ((D k).getD j 0 + 1))
          rw [HY2.out] at HST
          have HPR := Lib.hid (hpr.apart (r := some (w0.heap.size)) HST.out.2 (fun q hq e => by have q1 : some g0 = some q := hq; injection q1 with q1; injection e with e; omega))
          have HB1 := Lib.hid (hb.setCell (p := ⟨w0.heap.size, k, none⟩) (show w.heap.size ≤ w0.heap.size by omega) (.int .i64 ((D k).getD j 0 + 1)))
          clear hrow hpr hb HY1 HN1 HY2
          generalize (D k).getD j 0 = y at *
          generalize (D k).getD k 0 = y0 at *
          go_wp2_with fail
          go_roundw
          case rel => exact ⟨k + 1, by omega, by go_num, HST.out.1, HPR.out, HB1.out⟩
          case measure => first | (simp [intOf]; done) | (simp [intOf]; omega)
        · have HN2 := Lib.hid (HN1.out (by omega))
          rw [HN2.out] at hrow
          clear HY1 HN1
          go_wp2_with fail
          go_roundw
          case rel => exact ⟨k + 1, by omega, by go_num, hrow, hpr, hb⟩
          case measure => first | (simp [intOf]; done) | (simp [intOf]; omega)
      · have hk2 : k = xs.length := by omega
        subst hk2
        go_wp2_with fail
        go_ret2
        exact ⟨_, rfl, hrow, hb⟩
  · rw [depV_no hv, hv]
    rw [hv] at HP
    have e : parV xs = [] := by unfold parV; rw [dif_neg (by rw [hv]; simp)]
    rw [e] at HP
    clear hv e
    go_enter Try.func41, Try.ntmps41
    go_wp2_with (go_at_call 39; refine HP.out.mono ?_; rintro e w0 ⟨v0, rfl, hr0, hb0⟩; obtain ⟨A0, c0, rfl⟩ := hr0.shape)
    go_ret2
    exact ⟨_, rfl, IRow.nil _ _, hb0⟩
end Go.Proofs.Ytgajknnfmnnfeaa
