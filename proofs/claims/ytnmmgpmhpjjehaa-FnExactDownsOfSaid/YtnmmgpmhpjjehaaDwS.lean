/- The model's DownsOf. -/
import Derived.Test.YtnmmgpmhpjjehaaHkS
namespace Go.Proofs.Ytnmmgpmhpjjehaa
open Go.RowKit
set_option linter.unusedVariables false
def negOnly (P : Prop) : Prop := P
set_option maxRecDepth 100000 in
set_option maxHeartbeats 4000000 in
theorem specDowns_ret (v : Value) (ms : List Int) (w : World) (h : RInts w v ms) (hl : ms.length ≤ 1048576) :
    Calls Try.prog 56 #[v] w (IntsRet w (dwOk ms) (dwV ms)) := by
  have HG := Lib.hid (kiGood_any v ms w h hl)
  have HA := Lib.hid (all_any v ms (-10000) 10000 w h hl)
  have H := Lib.hid h
  obtain ⟨A0, cap, rfl⟩ := h.shape
  clear h
  by_cases hc : ((momB ms && allB ms (-10000) 10000) && !(ms.length % 2 == 0)) = true
  case neg =>
    have e1 : dwOk ms = false := by unfold dwOk; rw [Bool.not_eq_true] at hc; rw [hc, Bool.false_and]
    have e2 : dwV ms = [] := by unfold dwV; rw [e1]; rfl
    rw [e1, e2]
    rcases Bool.eq_false_or_eq_true (momB ms) with a1 | a1
    · rcases Bool.eq_false_or_eq_true (allB ms (-10000) 10000) with a2 | a2
      · rw [a1, a2] at hc
        have hev : ((ms.length : Int) % 2 == 0) = true := by
          rw [beq_iff_eq]
          simp at hc
          omega
        rw [a1] at HG
        rw [a2] at HA
        have hs8 := (momB_of a1).1
        clear hc a1 a2 e1 e2
        go_enter Try.func56, Try.ntmps56
        go_wp2_with (first | (go_at_call 89; refine HG.out.mono ?_; rintro e w' ⟨rfl, rfl⟩) | (go_at_call 90; refine HA.out.mono ?_; rintro e w' ⟨rfl, rfl⟩))
        go_ret2
        exact ⟨_, rfl, IRow.nil _ _, Below.refl _ _⟩
      · rw [a1] at HG
        rw [a2] at HA
        clear hc a1 a2 e1 e2
        go_enter Try.func56, Try.ntmps56
        go_wp2_with (first | (go_at_call 89; refine HG.out.mono ?_; rintro e w' ⟨rfl, rfl⟩) | (go_at_call 90; refine HA.out.mono ?_; rintro e w' ⟨rfl, rfl⟩))
        go_ret2
        exact ⟨_, rfl, IRow.nil _ _, Below.refl _ _⟩
    · rw [a1] at HG
      clear hc a1 e1 e2
      go_enter Try.func56, Try.ntmps56
      go_wp2_with (go_at_call 89; refine HG.out.mono ?_; rintro e w' ⟨rfl, rfl⟩)
      go_ret2
      exact ⟨_, rfl, IRow.nil _ _, Below.refl _ _⟩
  have EOK : Hid (dwOk ms = dcA ms (dwN ms)) := Lib.hid (by unfold dwOk; rw [hc, Bool.true_and])
  have EV : Hid (dwV ms = if dcA ms (dwN ms) = true then dwL ms (dwN ms) else []) := Lib.hid (by unfold dwV; rw [EOK.out])
  simp only [Bool.and_eq_true, Bool.not_eq_true'] at hc
  obtain ⟨⟨a1, a2⟩, a3⟩ := hc
  have hs8 := (momB_of a1).1
  have hod : ((ms.length : Int) % 2 == 0) = false := by
    rw [beq_eq_false_iff_ne] at a3 ⊢
    omega
  have HNO : Hid (∀ n, dc ms n = false → n < dwN ms → dwOk ms = false ∧ dwV ms = []) := Lib.hid fun n h1 h2 => by
    have := dcA_no h1 h2
    exact ⟨by rw [EOK.out, this], by rw [EV.out, this]; rfl⟩
  have HHK : Hid (∀ n w1, n < dwN ms → Below w.heap.size w w1 → Calls Try.prog 91 #[.slice A0 ms.length cap, .int .i64 ((n : Int) + 1)] w1 (Ret w1 (.int .i64 (hkD ms (n + 1))))) := Lib.hid fun n w1 hn hb =>
    kiHankel_any _ ms (n + 1) w1 (H.out.below hb) (by unfold dwN at hn; omega) (by omega) (by unfold dwN at hn; omega) (allB_of a2)
  have HBD : Hid (∀ n, n ≤ dwN ms → -240000000000000000 ≤ hkD ms n ∧ hkD ms n ≤ 240000000000000000) := Lib.hid fun n hn => hkD_bd (by unfold dwN at hn; omega) (by unfold dwN at hn; omega) (allB_of a2)
  have HN : Hid (dwN ms = (ms.length + 1) / 2) := Lib.hid rfl
  rw [a1] at HG
  rw [a2] at HA
  clear a1 a2 a3
  generalize hN : dwN ms = N at *
  have hN2 : N = (ms.length + 1) / 2 := by rw [← hN]; rfl
  have hb1 : N ≤ 4 := by omega
  have hb2 : 2 * N ≤ ms.length + 1 := by omega
  have hb3 : ms.length < 2 * N + 1 := by omega
  clear hN hN2 HN
  go_enter Try.func56, Try.ntmps56
  go_wp2_with (first | (go_at_call 89; refine HG.out.mono ?_; rintro e w' ⟨rfl, rfl⟩) | (go_at_call 90; refine HA.out.mono ?_; rintro e w' ⟨rfl, rfl⟩))
  go_loopw [4, 5, 6, 7] (fun b l o i wr => ∃ n : Nat, n ≤ N ∧ i = .int .i64 ((n + 1 : Nat) : Int) ∧ b = .int .i64 (hkD ms n) ∧ l = .int .i64 (dq ms n) ∧ IRow wr w.heap.size o (dwL ms n) ∧ Below w.heap.size w wr ∧ Hid (dcA ms n = true)) (fun _ _ _ i _ => ms.length + 2 - (intOf i).toNat)
  case atStart => exact ⟨0, Nat.zero_le _, rfl, rfl, rfl, IRow.nil _ _, Below.refl _ _, Lib.hid rfl⟩
  case round =>
    obtain ⟨n, hn, rfl, rfl, rfl, hrow, hb, HD⟩ := hrel
    by_cases hlt : n < N
    · have hp := dc_pos n HD.out
      have d0 := HBD.out n (by omega)
      have d1 := HBD.out (n + 1) (by omega)
      have HC := Lib.hid (HHK.out n wr hlt hb)
      have hz := hb.size
      obtain ⟨A, cl, rfl⟩ := hrow.shape
      have HR := Lib.hid hrow
      have HB := Lib.hid hb
      have HLL := dwL_length ms n
      have HNO1 : Hid (dc ms n = false → dwOk ms = false ∧ dwV ms = []) := Lib.hid fun h => HNO.out n h hlt
      have HDC : Hid (dc ms n = ((((hkD ms (n + 1)).tmod (hkD ms n) == 0) && decide (1 ≤ (hkD ms (n + 1)).tdiv (hkD ms n))) && ((!(n == 0) || hkD ms 1 == 1) && (((hkD ms (n + 1)).tdiv (hkD ms n)).tmod (dq ms n) == 0)))) := Lib.hid rfl
      have HSA : Hid (dcA ms (n + 1) = (dcA ms n && dc ms n)) := Lib.hid (dcA_succ _ _)
      have HQ : Hid (dq ms (n + 1) = (hkD ms (n + 1)).tdiv (hkD ms n)) := Lib.hid rfl
      have HW : Hid (dwL ms (n + 1) = if 1 ≤ n then dwL ms n ++ [((hkD ms (n + 1)).tdiv (hkD ms n)).tdiv (dq ms n)] else dwL ms n) := Lib.hid rfl
      have H1 : Hid (n = 0 → hkD ms 1 = hkD ms (n + 1)) := Lib.hid fun h => by rw [h]
      clear hrow hb HHK HBD HNO
      have i0 : 2 * ((n : Int) + 1) - 1 ≤ (ms.length : Int) := by omega
      generalize hkd : hkD ms (n + 1) = d at *
      have HKD := Lib.hid hkd
      clear hkd
      generalize hkD ms n = b at *
      generalize dq ms n = q at *
      generalize dwL ms n = L at *
      by_cases c1 : d.tmod b = 0
      · by_cases c2 : 1 ≤ d.tdiv b
        · have k1 : (d.tmod b != 0) = false := by rw [c1]; rfl
          have k2 : ¬ d.tdiv b < 1 := by omega
          have E1 : Hid ((d.tdiv b).tmod q = d.tdiv b % q) := Lib.hid (Int.tmod_eq_emod_of_nonneg (by omega))
          have E2 : Hid ((d.tdiv b).tdiv q = d.tdiv b / q) := Lib.hid (Int.tdiv_eq_ediv_of_nonneg (by omega))
          by_cases c3 : n = 0 ∧ d ≠ 1
          · have HF := Lib.hid (HNO1.out (by rw [HDC.out, c1, decide_eq_true c2, c3.1]; have := H1.out c3.1; rw [this, beq_eq_false_iff_ne.2 c3.2]; simp))
            have k3 : ((n : Int) + 1 == 1) = true := by rw [c3.1]; rfl
            have k4 : (d != 1) = true := by rw [bne_iff_ne]; exact c3.2
            clear c1 c2 c3
            go_wp2_with (go_at_call 91; refine HC.out.mono ?_; rintro e w2 ⟨rfl, hb2'⟩)
            go_ret2
            rw [HF.out.1, HF.out.2]
            exact ⟨_, rfl, IRow.nil _ _, HB.out.trans (hb2'.mono hz)⟩
          · have H3 : Hid ((!(n == 0) || hkD ms 1 == 1) = true) := Lib.hid (by
              by_cases e : n = 0
              · rw [H1.out e]
                have : d = 1 := Classical.byContradiction fun h => c3 ⟨e, h⟩
                rw [this]
                simp
              · rw [beq_eq_false_iff_ne.2 e]; rfl)
            by_cases c4 : d.tdiv b % q = 0
            · have HT : Hid (dcA ms (n + 1) = true) := Lib.hid (by rw [HSA.out, HD.out, HDC.out, H3.out, E1.out, c1, c4, decide_eq_true c2]; rfl)
              have k5 : (d.tdiv b % q != 0) = false := by rw [c4]; rfl
              by_cases c5 : n = 0
              · have HW2 : Hid (dwL ms (n + 1) = L) := Lib.hid (by rw [HW.out, if_neg (by omega)])
                have k3 : ((n : Int) + 1 == 1) = true := by rw [c5]; rfl
                have k4 : (d != 1) = false := by
                  have : d = 1 := Classical.byContradiction fun h => c3 ⟨c5, h⟩
                  rw [this]
                  rfl
                have k6 : ¬ 1 < (n : Int) + 1 := by omega
                clear c1 c2 c3 c4 c5
                go_wp2_with (go_at_call 91; refine HC.out.mono ?_; rintro e w2 ⟨rfl, hb2'⟩)
                go_roundw
                case rel => exact ⟨n + 1, by omega, by go_num, by rw [HKD.out], by rw [HQ.out], by rw [HW2.out]; exact HR.out.below hb2', HB.out.trans (hb2'.mono hz), HT⟩
                case measure => simp [intOf]; omega
              · have HW2 : Hid (dwL ms (n + 1) = L ++ [(d.tdiv b).tdiv q]) := Lib.hid (by rw [HW.out, if_pos (by omega)])
                have k3 : ((n : Int) + 1 == 1) = false := beq_eq_false_iff_ne.2 (by omega)
                have k6 : 1 < (n : Int) + 1 := by omega
                have k7 : -240000000000000000 ≤ (d.tdiv b).tdiv q ∧ (d.tdiv b).tdiv q ≤ 240000000000000000 := by
                  have h1 := Int.natAbs_tdiv_le_natAbs d b
                  have h2 := Int.natAbs_tdiv_le_natAbs (d.tdiv b) q
                  omega
                clear c1 c3 c4 c5
                go_wp2_with (first | (go_at_call 91; refine HC.out.mono ?_; rintro e w2 ⟨rfl, hb2'⟩; have hr2 := HR.out.below hb2'; have hz2 := Nat.le_trans hz hb2'.size) | (at_builtin; refine wpList_push (.tmp 62) (.tmp 66) rfl rfl w.heap.size _ L rfl hr2 rfl (by omega) hz2 ?_; intro v' w' hrow' hg' hat'))
                have HBF := Lib.hid ((HB.out.trans (hb2'.mono hz)).grown hg' hz2 (fun q hq => (hr2.blk q hq).1))
                clear hg' hat' hb2' hr2
                go_roundw
                case rel => exact ⟨n + 1, by omega, by go_num, by rw [HKD.out], by rw [HQ.out], by rw [HW2.out]; exact hrow', HBF.out, HT⟩
                case measure => simp [intOf]; omega
            · have HF := Lib.hid (HNO1.out (by rw [HDC.out, H3.out, E1.out, c1, decide_eq_true c2, beq_eq_false_iff_ne.2 c4]; rfl))
              have k5 : (d.tdiv b % q != 0) = true := by rw [bne_iff_ne]; exact c4
              by_cases c5 : n = 0
              · have k3 : ((n : Int) + 1 == 1) = true := by rw [c5]; rfl
                have k4 : (d != 1) = false := by
                  have : d = 1 := Classical.byContradiction fun h => c3 ⟨c5, h⟩
                  rw [this]
                  rfl
                clear c1 c3 c4 c5
                go_wp2_with (go_at_call 91; refine HC.out.mono ?_; rintro e w2 ⟨rfl, hb2'⟩)
                go_ret2
                rw [HF.out.1, HF.out.2]
                exact ⟨_, rfl, IRow.nil _ _, HB.out.trans (hb2'.mono hz)⟩
              · have k3 : ((n : Int) + 1 == 1) = false := beq_eq_false_iff_ne.2 (by omega)
                clear c1 c3 c4 c5
                go_wp2_with (go_at_call 91; refine HC.out.mono ?_; rintro e w2 ⟨rfl, hb2'⟩)
                go_ret2
                rw [HF.out.1, HF.out.2]
                exact ⟨_, rfl, IRow.nil _ _, HB.out.trans (hb2'.mono hz)⟩
        · have HF := Lib.hid (HNO1.out (by rw [HDC.out, c1, decide_eq_false c2]; simp))
          have k1 : (d.tmod b != 0) = false := by rw [c1]; rfl
          have k2 : d.tdiv b < 1 := by omega
          clear c1 c2
          go_wp2_with (go_at_call 91; refine HC.out.mono ?_; rintro e w2 ⟨rfl, hb2'⟩)
          go_ret2
          rw [HF.out.1, HF.out.2]
          exact ⟨_, rfl, IRow.nil _ _, HB.out.trans (hb2'.mono hz)⟩
      · have HF := Lib.hid (HNO1.out (by rw [HDC.out, beq_eq_false_iff_ne.2 c1]; simp))
        have k1 : (d.tmod b != 0) = true := by rw [bne_iff_ne]; exact c1
        clear c1
        go_wp2_with (go_at_call 91; refine HC.out.mono ?_; rintro e w2 ⟨rfl, hb2'⟩)
        go_ret2
        rw [HF.out.1, HF.out.2]
        exact ⟨_, rfl, IRow.nil _ _, HB.out.trans (hb2'.mono hz)⟩
    · have e3 : n = N := by omega
      have E1 : Hid (dwOk ms = true) := Lib.hid (by rw [EOK.out, ← e3]; exact HD.out)
      have E2 : Hid (dwV ms = dwL ms n) := Lib.hid (by rw [EV.out, ← e3, if_pos HD.out])
      have i0 : ¬ 2 * ((n : Int) + 1) - 1 ≤ (ms.length : Int) := by omega
      clear e3
      go_wp2_with fail
      go_ret2
      rw [E1.out, E2.out]
      exact ⟨_, rfl, hrow, hb⟩
end Go.Proofs.Ytnmmgpmhpjjehaa
