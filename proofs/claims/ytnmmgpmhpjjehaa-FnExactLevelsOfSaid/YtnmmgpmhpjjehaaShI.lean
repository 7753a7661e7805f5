/- areMoments, ShiftMoments of the program. -/
import Derived.Test.YtnmmgpmhpjjehaaShS
import Derived.Test.YtnmmgpmhpjjehaaKmI
import Derived.Test.YtnmmgpmhpjjehaaCounts
import Derived.Test.YtnmmgpmhpjjehaaDelMath
namespace Go.Proofs.Ytnmmgpmhpjjehaa
open Go.RowKit
set_option linter.unusedVariables false
set_option maxRecDepth 100000 in
set_option maxHeartbeats 1600000 in
theorem areMoments_ret (v : Value) (xs : List Int) (w : World) (h : RInts w v xs) (hl : xs.length ≤ 1048576) :
    Calls Try.prog 92 #[v] w (Ret w (.bool (momB xs))) := by
  obtain ⟨w1, hw1⟩ : ∃ w1, w1 = w.alloc (.cells #[.int .i64 (xs.length : Nat)] 3) := ⟨_, rfl⟩
  have hb1 : Below w.heap.size w w1 := by rw [hw1]; exact (Below.refl _ _).alloc (Nat.le_refl _) _
  have HI : Hid (Calls Try.prog 68 #[.int .i64 1, .int .i64 8, .slice (some ⟨w.heap.size, 0, none⟩) 1 1] w1 fun e w' => e = .returned (.bool (inBd 1 8 (xs.length : Nat))) ∧ w1 = w') := Lib.hid (by rw [hw1]; exact lit_within _ 1 8 w)
  have HA := Lib.hid (within_any v xs (-1000000000) 1000000000 w1 (h.below hb1) hl)
  have HW := Lib.hid hw1
  have HB1 := Lib.hid hb1
  obtain ⟨A0, cap, rfl⟩ := h.shape
  clear h hw1 hb1
  unfold momB
  generalize allB xs (-1000000000) 1000000000 = b at *
  rcases Bool.eq_false_or_eq_true (inBd 1 8 (xs.length : Nat)) with hi | hi
  · rw [hi] at HI ⊢
    clear hi
    go_enter Try.func92, Try.ntmps92
    go_wp2_with fail
    rw [← HW.out]
    go_at_call 68
    with_reducible refine HI.out.mono ?_
    rintro e w' ⟨rfl, rfl⟩
    go_wp2_with (go_at_call 68; refine HA.out.mono ?_; rintro e w' ⟨rfl, rfl⟩)
    go_ret
    exact ⟨by simp, HB1.out⟩
  · rw [hi] at HI ⊢
    clear hi
    go_enter Try.func92, Try.ntmps92
    go_wp2_with fail
    rw [← HW.out]
    go_at_call 68
    with_reducible refine HI.out.mono ?_
    rintro e w' ⟨rfl, rfl⟩
    go_wp2
    go_ret
    exact ⟨by simp, HB1.out⟩
/-- the sums made so far: those ahead of n whole, that of n its first t parts -/
def shF (k : Int) (ms : List Int) (n t j : Nat) : Int := if j < n then shP k ms j (j + 1) else if j = n then shP k ms n t else 0
theorem shF_zero (k : Int) (ms : List Int) (m : Nat) : List.replicate m (0 : Int) = fr (shF k ms 0 0) m := by
  apply List.ext_getElem
  · simp [fr]
  · intro i h1 h2
    simp only [fr, List.getElem_replicate, List.getElem_map, List.getElem_range, shF]
    rw [if_neg (by omega)]
    split
    · rfl
    · rfl
theorem shF_next (k : Int) (ms : List Int) (n m : Nat) : fr (shF k ms n (n + 1)) m = fr (shF k ms (n + 1) 0) m := fr_congr fun j _ => by
  unfold shF
  by_cases h1 : j < n
  · rw [if_pos h1, if_pos (by omega)]
  · rw [if_neg h1]
    by_cases h2 : j = n
    · subst h2; rw [if_pos rfl, if_pos (by omega)]
    · rw [if_neg h2, if_neg (by omega)]
      split
      · rfl
      · rfl
theorem shF_here (k : Int) (ms : List Int) (n t : Nat) : shF k ms n t n = shP k ms n t := by unfold shF; rw [if_neg (by omega), if_pos rfl]
theorem shF_set (k : Int) (ms : List Int) (n t m : Nat) : (fr (shF k ms n t) m).set n (shP k ms n (t + 1)) = fr (shF k ms n (t + 1)) m := by
  have := fr_set (shF k ms n t) (shF k ms n (t + 1)) m n fun j _ hne => by
    unfold shF
    by_cases h1 : j < n
    · rw [if_pos h1, if_pos h1]
    · rw [if_neg h1, if_neg h1, if_neg hne, if_neg hne]
  rw [shF_here] at this
  exact this
theorem shF_full (k : Int) (ms : List Int) : fr (shF k ms ms.length 0) ms.length = shL ms k := fr_congr fun j hj => by
  unfold shF
  rw [if_pos hj]
theorem shL_length (ms : List Int) (k : Int) : (shL ms k).length = ms.length := fr_length _ _
theorem shV_len (ms : List Int) (k : Int) : (shV ms k).length ≤ 1048577 := by
  unfold shV
  split
  · rename_i h
    unfold shOk at h
    simp only [Bool.and_eq_true] at h
    have := (momB_of h.1.1).1
    rw [shL_length]
    omega
  · simp
theorem shOk_in (ms : List Int) (k : Int) : shOk ms k = ((momB ms && inB k (-9) 9) && momB (shL ms k)) := rfl
set_option maxRecDepth 100000 in
set_option maxHeartbeats 4000000 in
theorem shiftMoments_ret (v : Value) (ms : List Int) (k : Int) (w : World) (h : RInts w v ms) (hl : ms.length ≤ 1048576) :
    Calls Try.prog 62 #[v, .int .i64 k] w (IntsRet w (shOk ms k) (shV ms k)) := by
  obtain ⟨i0, hi0, hz0, hz1, hz2⟩ := info_parts intInfo
  have HG := Lib.hid (areMoments_ret v ms w h hl)
  have HI := Lib.hid (fun w => lit_within k (-9) 9 w)
  have H := Lib.hid h
  obtain ⟨A0, cap, rfl⟩ := h.shape
  clear h
  rcases Bool.eq_false_or_eq_true (momB ms) with hm | hm
  case inr =>
    have e1 : shOk ms k = false := by rw [shOk_in, hm]; rfl
    have e2 : shV ms k = [] := by unfold shV; rw [e1]; rfl
    rw [e1, e2]
    rw [hm] at HG
    clear e1 e2 hm
    go_enter Try.func62, Try.ntmps62
    go_wp2_with (go_at_call 92; refine HG.out.mono ?_; rintro e w1 ⟨rfl, hb1⟩)
    go_ret2
    exact ⟨_, rfl, IRow.nil _ _, hb1⟩
  rcases Bool.eq_false_or_eq_true (inB k (-9) 9) with hi | hi
  case inr =>
    have e1 : shOk ms k = false := by rw [shOk_in, hm, hi]; rfl
    have e2 : shV ms k = [] := by unfold shV; rw [e1]; rfl
    rw [e1, e2]
    rw [hm] at HG
    rw [hi] at HI
    clear e1 e2 hm hi
    go_enter Try.func62, Try.ntmps62
    go_wp2_with (first | (go_at_call 92; refine HG.out.mono ?_; rintro e w1 ⟨rfl, hb1⟩; have hz1 := hb1.size) | (go_at_call 68; refine (HI.out _).mono ?_; rintro e w' ⟨rfl, rfl⟩))
    go_ret2
    exact ⟨_, rfl, IRow.nil _ _, hb1.alloc hz1 _⟩
  have hko : -9 ≤ k ∧ k ≤ 9 := inB_iff hi
  obtain ⟨hn, hb⟩ := momB_of hm
  have HMB := Lib.hid hb
  have EOK : Hid (shOk ms k = momB (shL ms k)) := Lib.hid (by rw [shOk_in, hm, hi]; rfl)
  have EV : Hid (shV ms k = if momB (shL ms k) = true then shL ms k else []) := Lib.hid (by unfold shV; rw [EOK.out])
  rw [hm] at HG
  rw [hi] at HI
  clear hm hi hb
  obtain ⟨g, o, cc, hv, hg, hcells⟩ := H.out.cells (by omega)
  have hA : A0 = some ⟨g, o, none⟩ := by injection hv
  subst hA
  clear hv
  have HC := Lib.hid hcells
  clear hcells
  go_enter Try.func62, Try.ntmps62
  go_wp2_with (first
    | (go_at_call 92; refine HG.out.mono ?_; rintro e w1 ⟨rfl, hb1⟩; have hz1' := hb1.size)
    | (go_at_call 68; refine (HI.out _).mono ?_; rintro e w' ⟨rfl, rfl⟩)
    | (at_builtin; fail)
    | (refine wpList_make_full _ rfl (.tmp 22) (.tmp 22) 40 rfl w.heap.size 3 i0 (.int .i64 0) 1 Try.underlying40 hi0 hz0 hz1 .i64 .i64 _ _ ms.length rfl rfl (by omega) (by omega) (by rw [hz2]; omega) (by unfold maxLen; omega) (by simp; omega) ?_; intro w2 hown2 hgrow2))
  obtain ⟨gs, hgs⟩ : ∃ gs, gs = w1.heap.size + 1 := ⟨_, rfl⟩
  have hgs1 : w.heap.size ≤ gs := by omega
  have hgs2 : (w1.alloc (.cells #[.int .i64 k] 3)).heap.size = gs := by rw [hgs]; simp
  rw [hgs2] at hown2
  have HROW : Hid (IRow w2 w.heap.size (.slice (some ⟨gs, 0, none⟩) ms.length ms.length) (fr (shF k ms 0 0) ms.length)) := Lib.hid (IRow.of_own hown2 (by simp [fr_length]) (by rw [← shF_zero, madeOne _ rfl]; simp))
  have HBE : Hid (Below w.heap.size w w2) := Lib.hid ((hb1.alloc hz1' _).grown hgrow2 (by simp; omega) (by simp))
  rw [← hgs]
  clear hown2 hgrow2 hgs hgs2 hb1 HG HI
  go_loopw [26] (fun i wr => ∃ n : Nat, n ≤ ms.length ∧ i = .int .i64 (n : Int) ∧ IRow wr w.heap.size (.slice (some ⟨gs, 0, none⟩) ms.length ms.length) (fr (shF k ms n 0) ms.length) ∧ Below w.heap.size w wr) (fun i _ => ms.length - (intOf i).toNat)
  case atStart => exact ⟨0, Nat.zero_le _, rfl, HROW.out, HBE.out⟩
  case round =>
    obtain ⟨n, hnl, rfl, hrow, hb⟩ := hrel
    clear HROW HBE
    by_cases hlt : n < ms.length
    · obtain ⟨w0, rfl⟩ : ∃ w0, w0 = wr := ⟨_, rfl⟩
      have HR := Lib.hid hrow
      have HB := Lib.hid hb
      have i1 : (n : Int) < (ms.length : Int) := by omega
      clear hrow hb
      go_wp2_with fail
      go_loopw [8, 9] (fun p i wz => ∃ t : Nat, t ≤ n + 1 ∧ i = .int .i64 ((n : Int) - t) ∧ p = .int .i64 (k ^ t) ∧ IRow wz w.heap.size (.slice (some ⟨gs, 0, none⟩) ms.length ms.length) (fr (shF k ms n t) ms.length) ∧ Below w.heap.size w wz) (fun _ i _ => (intOf i + 1).toNat)
      case atStart => exact ⟨0, by omega, by go_num, by rw [Int.pow_zero], HR.out, HB.out⟩
      case round =>
        obtain ⟨t, ht, rfl, rfl, hrow, hb⟩ := hrel
        clear HR HB
        by_cases hlt2 : t ≤ n
        · have e1 := (hb.cell (p := ⟨g, o + (n - t), none⟩) hg).trans (HC.out (n - t) (by omega))
          have e2 : (n : Int) - (t : Int) = ((n - t : Nat) : Int) := by omega
          have d1 := hrow.cell (j := n) (by rw [fr_length]; omega)
          rw [fr_get _ _ _ (by omega), shF_here] at d1
          have f1 := hrow.free n
          have b1 := sh_p (k := k) (ms := ms) (n := n) (by omega) hko (fun i hi => HMB.out i (by omega)) t (by omega)
          have b2 := sh_c (n := n) (i := n - t) (k := k) (t := t) (by omega) hko (by omega)
          have b3 := sh_t (n := n) (i := n - t) (k := k) (t := t) (m := ms.getD (n - t) 0) (by omega) hko (by omega) (HMB.out (n - t) (by omega))
          have b4 := pow9 hko (t := t + 1) (by omega)
          rw [Int.pow_succ] at b4
          have HS : Hid (shP k ms n (t + 1) = shP k ms n t + k ^ t * ((chs n (n - t) : Nat) : Int) * ms.getD (n - t) 0) := Lib.hid (by rw [shP_succ, Int.mul_comm ((chs n (n - t) : Nat) : Int)])
          rw [Int.mul_comm] at b2
          rw [Int.mul_comm ((chs n (n - t) : Nat) : Int)] at b3
          have HCH : Hid (∀ w, Calls Try.prog 70 #[.int .i64 ((n - t : Nat) : Int), .int .i64 ((n : Int) - ((n - t : Nat) : Int))] w fun e w' => e = .returned (.tuple #[.int .i64 ((chs n (n - t) : Nat) : Int), .bool true]) ∧ w = w') := Lib.hid fun w => by
            have := count_yes (n - t) t w (by omega)
            rw [show t + (n - t) = n by omega] at this
            rwa [show (n : Int) - ((n - t : Nat) : Int) = (t : Int) by omega]
          have HPW : Hid (k ^ (t + 1) = k ^ t * k) := Lib.hid (Int.pow_succ _ _)
          have HT : Hid ((((n - t : Nat) : Int)) - 1 = (n : Int) - ((t + 1 : Nat) : Int)) := Lib.hid (by omega)
          have HST := Lib.hid (hrow.set n (shP k ms n (t + 1))).1
          rw [shF_set] at HST
          have HB := Lib.hid hb
          have hgz : gs < wr.heap.size := hrow.lt.2
          rw [e2]
          have i2 : ((n - t : Nat) : Int) < (ms.length : Int) := by omega
          have i3 : 0 ≤ ((n - t : Nat) : Int) := by omega
          have i4 : ((n - t : Nat) : Int) ≤ (n : Int) := by omega
          clear hrow hb e2
          generalize hj : n - t = j at *
          generalize chs n j = ch at *
          generalize k ^ t = p at *
          generalize ms.getD j 0 = m at *
          rw [HS.out] at HST
          generalize shP k ms n t = x at *
          have HJ := Lib.hid hj
          clear hj
          have b5 : -612220032000000000 * 8 ≤ x ∧ x ≤ 612220032000000000 * 8 := by omega
          clear b1
          go_wp2_with (go_at_call 70; refine (HCH.out _).mono ?_; rintro e w' ⟨rfl, rfl⟩)
          go_region
          go_wp2_with fail
          go_roundw
          case rel => exact ⟨t + 1, by omega, by rw [HT.out], by rw [HPW.out], HST.out, (HB.out.setCell (p := ⟨gs, n, none⟩) hgs1 _).drew⟩
          case measure => first | (simp [intOf]; done) | (simp [intOf]; omega)
        · obtain rfl : t = n + 1 := by omega
          have e3 : (n : Int) - ((n + 1 : Nat) : Int) = -1 := by omega
          rw [e3]
          have hrow' := hrow
          rw [shF_next] at hrow'
          have HR2 := Lib.hid hrow'
          have HB2 := Lib.hid hb
          clear hrow hrow' hb
          go_wp2_with fail
          go_roundw
          case rel => exact ⟨n + 1, by omega, by go_num, HR2.out, HB2.out⟩
          case measure => simp [intOf]; omega
    · obtain rfl : n = ms.length := by omega
      rw [shF_full] at hrow
      have hr2 : RInts wr (.slice (some ⟨gs, 0, none⟩) ms.length ms.length) (shL ms k) := RInts.of_row hrow
      have HG2 := Lib.hid (areMoments_ret _ (shL ms k) wr hr2 (by rw [shL_length]; omega))
      have HR2 := Lib.hid hrow
      have HB2 := Lib.hid hb
      have hsz := hb.size
      clear hrow hb hr2
      rcases Bool.eq_false_or_eq_true (momB (shL ms k)) with hq | hq
      · rw [hq] at HG2
        have E1 : Hid (shOk ms k = true) := Lib.hid (by rw [EOK.out, hq])
        have E2 : Hid (shV ms k = shL ms k) := Lib.hid (by rw [EV.out, if_pos hq])
        clear hq
        go_wp2_with (go_at_call 92; refine HG2.out.mono ?_; rintro e w3 ⟨rfl, hb3⟩)
        go_ret2
        rw [E1.out, E2.out]
        exact ⟨_, rfl, HR2.out.below hb3, HB2.out.trans (hb3.mono hsz)⟩
      · rw [hq] at HG2
        have E1 : Hid (shOk ms k = false) := Lib.hid (by rw [EOK.out, hq])
        have E2 : Hid (shV ms k = []) := Lib.hid (by rw [EV.out, hq]; rfl)
        clear hq
        go_wp2_with (go_at_call 92; refine HG2.out.mono ?_; rintro e w3 ⟨rfl, hb3⟩)
        go_ret2
        rw [E1.out, E2.out]
        exact ⟨_, rfl, IRow.nil _ _, HB2.out.trans (hb3.mono hsz)⟩
end Go.Proofs.Ytnmmgpmhpjjehaa
