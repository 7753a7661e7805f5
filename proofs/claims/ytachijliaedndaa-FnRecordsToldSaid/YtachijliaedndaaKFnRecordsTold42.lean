/- Pack 42 of what FnRecordsTold needs: RtC, RtL. -/
import Derived.Test.YtachijliaedndaaKFnRecordsTold41
import Derived.Deep.CutBlock
import Derived.Deep.DeepCutAuto
import Derived.Outline
import Derived.IntWalk
/- The law on records: the calls as the law wants them. -/
namespace Go.Proofs.Ytachijliaedndaa
open Go.RowKit
set_option linter.unusedVariables false
/-- what the law asks of a path's records -/
structure RtC (s : ByteArray) (L l : Nat) (U V : Int) : Prop where
  sz : s.size ≤ 40
  ln : (recV s).length = L
  uv : U + V = (s.size : Int)
  ub : 0 ≤ U ∧ 0 ≤ V
  ul : abvV s = U
  ll : laV s 0 = (l : Int)
  ls : l ≤ s.size
  h0 : hAt s l = 0
  pr : (l : Int) % 2 = 0
  af : ∀ j, l < j → j ≤ s.size → hAt s j ≠ 0
  L40 : L ≤ 41
  at' : ∀ j, j < L → ∃ i : Nat, (recV s).getD j 0 = (i : Int) ∧ i ≤ s.size ∧ hAt s i = (j : Int) + 1 ∧ ∀ x < i, hAt s x ≤ (j : Int)
  up : ∀ j, j + 1 < L → (recV s).getD j 0 < (recV s).getD (j + 1) 0
  hi : ∀ W, Calls Try.prog 59 #[.string s] W (Ret W (.tuple #[.int .i64 ((L : Nat) : Int), .bool true]))
  ht : ∀ W, Calls Try.prog 19 #[.string s] W (IntsRet W true (hts s))
  tu : ∀ W, Calls Try.prog 60 #[.string s] W (Ret W (.tuple #[.string (turnS s), .bool true]))
  ab : ∀ W, Calls Try.prog 53 #[.string (turnS s)] W (Ret W (.tuple #[.int .i64 V, .bool true]))
theorem rtC (s : ByteArray) (hp : pathB s = true) : ∃ L l U V, RtC s L l U V := by
  have hz := path40 hp
  have hsm : s.size ≤ maxLen := by unfold maxLen; omega
  have hts' : (turnS s).size = s.size := by unfold turnS; rw [strOf_size, turnL_length, list_len]
  have hpt := pathB_turn hp
  have hu : UpTo s s.size := fun j h _ => ((pathB_iff s).1 hp).2 j h
  have e1 : recV s = recTo s (s.size + 1) := by unfold recV; rw [if_pos hp]
  have hR := rec_facts s (s.size + 1)
  have f0 : faZ s 0 = ((0 : Nat) : Int) := fa_is (Nat.zero_le _) (hAt_zero s) (fun j h => absurd h (by omega))
  have l0 : 0 ≤ laZ s 0 := (fa_la s 0).1 (by rw [f0]; omega)
  obtain ⟨l, a1, a2, a3, a4⟩ := la_hit l0
  have lok : laOk s 0 = true := by unfold laOk inB; rw [hp, decide_eq_true l0]; decide
  have lv : laV s 0 = (l : Int) := by unfold laV; rw [if_pos lok]; exact a1
  have hpar := h_par hu l a2
  rw [a3] at hpar
  have hab := abv_turn hu s.size (Nat.le_refl _)
  have hm := rec_high s s.size
  have b1 := abvTo_bd s s.size
  have b2 := abvTo_bd (turnS s) s.size
  have ev : abvV s = abvTo s s.size := by unfold abvV; rw [if_pos hp]
  have ew : abvV (turnS s) = abvTo (turnS s) s.size := by unfold abvV; rw [if_pos hpt, hts']
  refine ⟨(recV s).length, l, abvTo s s.size, abvTo (turnS s) s.size, hz, rfl, hab, ⟨b1.1, b2.1⟩, ev, lv, a2, a3, by omega, a4, ?_, ?_, ?_, fun W => ?_, fun W => ?_, fun W => turn_yes s W hsm hp, fun W => ?_⟩
  · rw [e1]
    have := recTo_len s (s.size + 1)
    omega
  · intro j hj
    rw [e1] at hj ⊢
    obtain ⟨i, c1, c2, c3, c4⟩ := hR.2 j hj
    exact ⟨i, c1, by omega, c3, c4⟩
  · intro j hj
    rw [e1] at hj ⊢
    exact rec_rise s _ hj
  · have := highestOf_ret s W hsm
    unfold highV at this
    rw [hp, if_pos rfl, ← hm, ← e1] at this
    exact this
  · have := heights_ret s W hsm
    unfold htsV at this
    rw [hp] at this
    exact this
  · have := stepsAbove_ret (turnS s) W (by rw [hts']; exact hsm)
    rw [ew, hpt] at this
    exact this
/-- what the law asks of a number of pairs -/
structure RtN (m : Nat) (Z S : Int) : Prop where
  m15 : m ≤ 15
  hc : chV (m : Int) = prL rrF (m : Int)
  ok : chOk (m : Int) = true
  cp : ∀ W, Calls Try.prog 71 #[.int .i64 (m : Int), .int .i64 (m : Int)] W fun e w' => e = .returned (.tuple #[.int .i64 Z, .bool true]) ∧ W = w'
  ln : (prL abF (m : Int)).length = m + 1
  bd : ∀ x ∈ prL abF (m : Int), -1073741824 ≤ x ∧ x ≤ 1073741824
  sm : (prL abF (m : Int)).sum = S
  yp : ∀ W, Calls Try.prog 73 #[.int .i64 4, .int .i64 (m : Int)] W fun e w' => e = .returned (.int .i64 S) ∧ W = w'
  z0 : (prL abF (m : Int)).getD 0 0 = Z
  zm : (prL abF (m : Int)).getD m 0 = Z
  sy : ∀ k, k ≤ m → (prL abF (m : Int)).getD k 0 = (prL abF (m : Int)).getD (m - k) 0
theorem rtN (n : Int) (h : prB n = true) : ∃ (m : Nat) (Z S : Int), n = (m : Int) ∧ prZ nbF n = Z ∧ RtN m Z S := by
  have h' := h
  unfold prB inB at h'
  rw [Bool.and_eq_true, decide_eq_true_iff, decide_eq_true_iff] at h'
  obtain ⟨m, rfl⟩ : ∃ m : Nat, n = (m : Int) := ⟨n.toNat, by omega⟩
  have hm : m < 16 := by omega
  obtain ⟨a1, a2, a3, a4, a5, a6, a7, a8⟩ := rt_all m hm
  have hs := rt_sym m hm
  have ef : ∀ g : Nat → Nat → Int, prL g (m : Int) = fr (g m) (m + 1) := fun g => by unfold prL; rw [if_pos h, Int.toNat_natCast]
  refine ⟨m, nbF m, 4 ^ m, rfl, by unfold prZ; rw [if_pos h, Int.toNat_natCast], by omega, ?_, rt_chok m hm, fun W => ?_, ?_, ?_, ?_, fun W => yPower_any m W (by omega), ?_, ?_, ?_⟩
  · rw [ef, rt_high hm]
  · have := count_ret (m : Int) (m : Int) W
    rwa [a3, ← a2] at this
  · rw [ef]; simp [fr]
  · intro x hx
    rw [ef] at hx
    unfold fr at hx
    obtain ⟨k, hk, rfl⟩ := List.mem_map.1 hx
    have := hs k (by simpa using hk)
    omega
  · rw [ef]; exact a1
  · rw [ef, fr_get _ _ _ (by omega)]; exact a4
  · rw [ef, fr_get _ _ _ (by omega)]; exact a5
  · intro k hk
    rw [ef, fr_get _ _ _ (by omega), fr_get _ _ _ (by omega)]
    exact (hs k (by omega)).1
end Go.Proofs.Ytachijliaedndaa

/- The law on records: the walk. -/
namespace Go.Proofs.Ytachijliaedndaa
open Go.RowKit
set_option linter.unusedVariables false
set_option maxRecDepth 100000 in
set_option maxHeartbeats 8000000 in
theorem wRecs (a0 : Option Addr) (l0 c0 : Nat) (a1 : Option Addr) (l1 c1 : Nat) (w : World) (h0 : IsCode w a0 l0 c0) (h1 : IsCode w a1 l1 c1) :
    Calls Try.prog 5 #[.slice a0 l0 c0, .slice a1 l1 c1] w fun e w' => e = .returned (.bool true) ∧ Below w.heap.size w w' := by
  have HB := Lib.hid (bigAny a0 a1 l0 c0 l1 c1 w h0.2 h1.2)
  by_cases hbig : 1048576 < l0 + l1
  · rw [decide_eq_true hbig] at HB
    clear h0 h1
    go_enter Try.func5, Try.ntmps5
    go_wp2_with (go_at_call 9; refine HB.out.mono ?_; rintro e w' ⟨rfl, rfl⟩)
    go_ret
    exact ⟨rfl, Below.refl _ _⟩
  rw [decide_eq_false hbig] at HB
  have HD0 := Lib.hid (drawRecords_any w a0 l0 c0 h0.1 (by omega))
  have HD1 := Lib.hid fun (W : World) (hb : Below w.heap.size w W) => drawByRecords_any W a1 l1 c1 (h1.1.below hb) (by omega)
  clear h0 h1
  go_enter Try.func5, Try.ntmps5
  go_wp2_with (go_at_call 9; refine HB.out.mono ?_; rintro e w' ⟨rfl, rfl⟩)
  refine HD0.out.mono ?_
  rintro e w1 ⟨s, rfl, hs50, hb1⟩
  have HB1 := Lib.hid hb1
  have hsm : s.size ≤ maxLen := by unfold maxLen; omega
  have C1 := Lib.hid fun W => records_ret s W hsm
  have C2 := Lib.hid fun W => specRecords_ret s W hsm
  have C3 := Lib.hid fun W => stepsAbove_ret s W hsm
  have C4 := Lib.hid fun W => specStepsAbove_ret s W hsm
  have C5 := Lib.hid fun W => lastReturnI_ret s W hsm
  have C6 := Lib.hid fun W => specLastReturn_ret s W hsm
  have C7 := Lib.hid fun W => isPath_any s W hsm
  have HRT := Lib.hid (rtC s)
  have HLR : Hid ((recV s).length ≤ 1099511627776) := Lib.hid (by have := recV_len s (by omega); omega)
  clear hb1 HD0 HB hsm hs50
  go_wp2_with fail
  refine (C1.out _).mono ?_
  rintro e wa1 ⟨va1, rfl, hr, hb⟩
  have HBa1 := Lib.hid (HB1.out.trans (hb.mono HB1.out.size))
  have R_a1 := Lib.hid hr
  clear hb hr HB1
  go_wp2_with fail
  refine (C2.out _).mono ?_
  rintro e wa2 ⟨va2, rfl, hr, hb⟩
  have HBa2 := Lib.hid (HBa1.out.trans (hb.mono HBa1.out.size))
  have R_a2 := Lib.hid (R_a1.out.below hb)
  have S_a2 := Lib.hid hr
  clear hb hr HBa1 R_a1
  go_wp2_with fail
  refine (C3.out _).mono ?_
  rintro e wa3 ⟨rfl, hb⟩
  have HBa3 := Lib.hid (HBa2.out.trans (hb.mono HBa2.out.size))
  have R_a3 := Lib.hid (R_a2.out.below hb)
  have S_a3 := Lib.hid (S_a2.out.below hb)
  clear hb HBa2 R_a2 S_a2
  go_wp2_with fail
  refine (C4.out _).mono ?_
  rintro e wa4 ⟨rfl, hb⟩
  have HBa4 := Lib.hid (HBa3.out.trans (hb.mono HBa3.out.size))
  have R_a4 := Lib.hid (R_a3.out.below hb)
  have S_a4 := Lib.hid (S_a3.out.below hb)
  clear hb HBa3 R_a3 S_a3
  go_wp2_with fail
  refine (C5.out _).mono ?_
  rintro e wa5 ⟨rfl, hb⟩
  have HBa5 := Lib.hid (HBa4.out.trans (hb.mono HBa4.out.size))
  have R_a5 := Lib.hid (R_a4.out.below hb)
  have S_a5 := Lib.hid (S_a4.out.below hb)
  clear hb HBa4 R_a4 S_a4
  go_wp2_with fail
  refine (C6.out _).mono ?_
  rintro e wa6 ⟨rfl, hb⟩
  have HBa6 := Lib.hid (HBa5.out.trans (hb.mono HBa5.out.size))
  have R_a6 := Lib.hid (R_a5.out.below hb)
  have S_a6 := Lib.hid (S_a5.out.below hb)
  clear hb HBa5 R_a5 S_a5
  go_wp2_with fail
  refine (ySame_same va1 va2 (recV s) _ _ _ R_a6.out S_a6.out HLR.out).mono ?_
  rintro e wa7 ⟨rfl, na7, rfl⟩
  have HBa7 := Lib.hid (below_drewN HBa6.out na7)
  have R_a7 := Lib.hid (R_a6.out.drewN na7)
  have S_a7 := Lib.hid (S_a6.out.drewN na7)
  clear HBa6 R_a6 S_a6
  generalize wa6.drewN na7 = wa7 at *
  go_wp2_with fail
  refine (C7.out _).mono ?_
  rintro e wa8 ⟨rfl, rfl⟩
  clear C1 C2 C3 C4 C5 C6 C7
  go_upto_if 134 with fail
  generalize hU0 : abvV s = U0 at *
  have HU0 := Lib.hid hU0
  clear hU0
  generalize hL0 : laV s 0 = e0 at *
  have HE0 := Lib.hid hL0
  clear hL0
  generalize hok : pathB s = ok at *
  have HOK := Lib.hid hok
  clear hok
  go_cut [4] from 18 to 249 (fun s wx => s = .bool false ∧ Below w.heap.size w wx)
  case first =>
    as_aux_lemma =>
    cases ok with
    | false =>
      go_wp2_with fail
      go_meet
      exact ⟨rfl, HBa7.out⟩
    | true =>
    obtain ⟨L, l, U, V, R⟩ := HRT.out rfl
    have HR := Lib.hid R
    obtain ⟨AR, cR, rfl⟩ := R_a7.out.shape
    generalize hL0 : (recV s).length = L0 at *
    have HRL := Lib.hid hL0
    obtain rfl : L0 = L := hL0.symm.trans R.ln
    obtain rfl : U0 = U := HU0.out.symm.trans R.ul
    obtain rfl : e0 = (l : Int) := HE0.out.symm.trans R.ll
    have hsz := R.sz
    have hls := R.ls
    have hL40 := R.L40
    clear R HRT HOK hL0 HU0 HE0
    go_wp2_with fail
    refine (HR.out.hi _).mono ?_
    rintro e wb1 ⟨rfl, hb⟩
    have HBb1 := Lib.hid (HBa7.out.trans (hb.mono HBa7.out.size))
    have R_b1 := Lib.hid (R_a7.out.below hb)
    have S_b1 := Lib.hid (S_a7.out.below hb)
    clear hb HBa7 R_a7 S_a7
    go_wp2_with fail
    refine (HR.out.ht _).mono ?_
    rintro e wb2 ⟨vb2, rfl, hr, hb⟩
    have HBb2 := Lib.hid (HBb1.out.trans (hb.mono HBb1.out.size))
    have R_b2 := Lib.hid (R_b1.out.below hb)
    have S_b2 := Lib.hid (S_b1.out.below hb)
    have H_b2 := Lib.hid hr
    clear hb hr HBb1 R_b1 S_b1
    go_wp2_with fail
    refine (HR.out.tu _).mono ?_
    rintro e wb3 ⟨rfl, hb⟩
    have HBb3 := Lib.hid (HBb2.out.trans (hb.mono HBb2.out.size))
    have R_b3 := Lib.hid (R_b2.out.below hb)
    have S_b3 := Lib.hid (S_b2.out.below hb)
    have H_b3 := Lib.hid (H_b2.out.below hb)
    clear hb HBb2 R_b2 S_b2 H_b2
    go_wp2_with fail
    refine (HR.out.ab _).mono ?_
    rintro e wb4 ⟨rfl, hb⟩
    have HBb4 := Lib.hid (HBb3.out.trans (hb.mono HBb3.out.size))
    have R_b4 := Lib.hid (R_b3.out.below hb)
    have S_b4 := Lib.hid (S_b3.out.below hb)
    have H_b4 := Lib.hid (H_b3.out.below hb)
    clear hb HBb3 R_b3 S_b3 H_b3
    obtain ⟨g, c, rfl, hgB, hgl⟩ := H_b4.out.form' (hts_length s) (by omega)
    have hcap : s.size + 1 ≤ c := by
      obtain ⟨g2, c2, hv, _, _, h1, _⟩ := H_b4.out.form (by rw [hts_length]; omega)
      injection hv with _ _ e3
      rw [hts_length] at h1
      omega
    generalize hL1 : L0 = L at *
    generalize hU1 : U0 = U at *
    clear hL1 hU1
    have q1 := hts_at H_b4.out l (by omega)
    rw [HR.out.h0] at q1
    have huv := HR.out.uv
    have hu1 := HR.out.ub.1
    have hu2 := HR.out.ub.2
    have hpr := HR.out.pr
    have hpr2 : (l : Int).tmod 2 = 0 := by rw [Int.tmod_eq_emod_of_nonneg (by omega)]; exact hpr
    have hpr3 : l % 2 = 0 := by omega
    have x1 : (l : Int) < (s.size : Int) + 1 := by omega
    go_wp2_with fail
    clear q1 huv hpr hpr2 hpr3 x1
    have HH := Lib.hid H_b4.out
    have HRR := Lib.hid R_b4.out
    have HBZ := Lib.hid HBb4.out
    go_loopw [4, 197] (fun sv kv wr => ∃ k : Nat, k ≤ L ∧ sv = .bool false ∧ kv = .int .i64 (k : Int) ∧ wb4 = wr) (fun _ kv _ => L - (intOf kv).toNat)
    case atStart => exact ⟨0, Nat.zero_le _, rfl, rfl, rfl⟩
    case round =>
      obtain ⟨k, hk, rfl, rfl, rfl⟩ := hrel
      by_cases hlt : k < L
      · obtain ⟨g9, c9, hv, _, _⟩ := HRR.out.form' HRL.out (by omega)
        have hA : AR = some ⟨g9, 0, none⟩ := by injection hv
        subst hA
        clear hv
        obtain ⟨i, hi, his, hix, hib⟩ := HR.out.at' k hlt
        have HIB := Lib.hid hib
        have e1 := HRR.out.cell (j := k) (by rw [HRL.out]; exact hlt)
        rw [hi] at e1
        have e2 := hts_at HH.out i his
        rw [hix] at e2
        have HUP := Lib.hid fun j (h : j + 1 < L) => HR.out.up j h
        have y0 : (k : Int) < (L : Int) := by omega
        have y1 : (i : Int) < (s.size : Int) + 1 := by omega
        have y2 : (i : Int) ≤ (s.size : Int) + 1 := by omega
        have HI := Lib.hid hi
        have HIX := Lib.hid hix
        clear hi hix hib
        go_upto_region 22 with fail
        go_cut [221] from 202 to 221 (fun s wx => s = .bool false ∧ wb4 = wx)
        case first =>
          by_cases hk0 : k = 0
          · subst hk0
            go_wp2_with fail
            go_meet
            exact ⟨rfl, rfl⟩
          · obtain ⟨k1, hk1⟩ : ∃ k1, k = k1 + 1 := ⟨k - 1, by omega⟩
            have e3 := HRR.out.cell (j := k1) (by rw [HRL.out]; omega)
            have hz := HUP.out k1 (by omega)
            rw [← hk1, HI.out] at hz
            generalize (recV s).getD k1 0 = z at *
            have h3 : decide (z ≥ (i : Int)) = false := decide_eq_false (by omega)
            have h4 : decide ((i : Int) ≤ z) = false := decide_eq_false (by omega)
            have h5 : (0 : Int) < (k : Int) := by omega
            have h6 : 0 < k := by omega
            have h7 : (k : Int) - 1 = (k1 : Int) := by omega
            have h8 : k1 < L := by omega
            have h9 : (k1 : Int) < (L : Int) := by omega
            have HK1 := Lib.hid hk1
            clear hk1 hz hk0
            go_wp2_with fail
            go_meet
            exact ⟨rfl, rfl⟩
        case rest =>
        obtain ⟨rfl, rfl⟩ := hcut
        clear e1 e2
        have y3 : (i : Int) ≤ (c : Int) := by omega
        have y4 : i ≤ c := by omega
        go_wp2_with fail
        go_loopw [4, 226] (fun sv jv wq => ∃ j : Nat, j ≤ i ∧ sv = .bool false ∧ jv = .int .i64 (j : Int) ∧ wb4 = wq) (fun _ jv _ => i - (intOf jv).toNat)
        case atStart => exact ⟨0, Nat.zero_le _, rfl, rfl, rfl⟩
        case round =>
          obtain ⟨j, hj, rfl, rfl, rfl⟩ := hrel
          by_cases hji : j < i
          · have e4 := hts_at HH.out j (by omega)
            have hb4 := HIB.out j hji
            generalize hAt s j = x at *
            have h3 : decide ((k : Int) < x) = false := decide_eq_false (by omega)
            have h4 : (j : Int) < (i : Int) := by omega
            clear hb4
            go_wp2_with fail
            go_roundw
            case rel => exact ⟨j + 1, by omega, rfl, by go_num, by first | rfl | trivial⟩
            case measure => simp [intOf]; omega
          · obtain rfl : j = i := by omega
            go_wp2_with fail
            go_roundw
            case rel => exact ⟨k + 1, by omega, rfl, by go_num, by first | rfl | trivial⟩
            case measure => simp [intOf]; omega
      · obtain rfl : k = L := by omega
        go_wp2_with fail
        go_loopw [4, 237] (fun sv kv wr => ∃ j : Nat, j ≤ s.size + 1 ∧ sv = .bool false ∧ kv = .int .i64 (j : Int) ∧ wb4 = wr) (fun _ kv _ => s.size + 1 - (intOf kv).toNat)
        case atStart => exact ⟨0, Nat.zero_le _, rfl, rfl, rfl⟩
        case round =>
          obtain ⟨j, hj, rfl, rfl, rfl⟩ := hrel
          by_cases hjl : j < s.size + 1
          · have e1 := hts_at HH.out j (by omega)
            have y0 : (j : Int) < (s.size : Int) + 1 := by omega
            by_cases hlj : l < j
            · have hne := HR.out.af j hlj (by omega)
              generalize hAt s j = x at *
              have y1 : (x == 0) = false := by simpa using hne
              have y2 : (l : Int) < (j : Int) := by omega
              clear hne
              go_wp2_with fail
              go_roundw
              case rel => exact ⟨j + 1, by omega, rfl, by go_num, by first | rfl | trivial⟩
              case measure => simp [intOf]; omega
            · generalize hAt s j = x at *
              have y1 : decide ((l : Int) < (j : Int)) = false := decide_eq_false (by omega)
              have y2 : decide (l < j) = false := decide_eq_false hlj
              go_wp2_with fail
              go_roundw
              case rel => exact ⟨j + 1, by omega, rfl, by go_num, by first | rfl | trivial⟩
              case measure => simp [intOf]; omega
          · obtain rfl : j = s.size + 1 := by omega
            go_wp2_with fail
            go_meet
            exact ⟨rfl, HBZ.out⟩
  case rest =>
  as_aux_lemma =>
  obtain ⟨rfl, hbc⟩ := hcut
  have HBC := Lib.hid hbc
  clear hbc HBa7 R_a7 S_a7 HRT HOK HU0 HE0 HLR
  go_wp2_with fail
  refine (HD1.out _ HBC.out).mono ?_
  rintro e wd ⟨n, rfl, hi64, hbd⟩
  have HBD := Lib.hid (HBC.out.trans (hbd.mono HBC.out.size))
  have N1 := Lib.hid fun W => byRecordsI_ret n W
  have N2 := Lib.hid fun W => specByRecords_ret n W
  have N3 := Lib.hid fun W => byAboveI_ret n W
  have N4 := Lib.hid fun W => specByAbove_ret n W
  have N5 := Lib.hid fun W => byLastI_ret n W
  have N6 := Lib.hid fun W => specByLast_ret n W
  have N7 := Lib.hid fun W => neverBackI_ret n W
  have N8 := Lib.hid fun W => specNeverBack_ret n W
  have HLA : Hid ((prL rrF n).length ≤ 1099511627776 ∧ (prL abF n).length ≤ 1099511627776) := Lib.hid (by have h1 := prL_len rrF n; have h2 := prL_len abF n; omega)
  have HRN := Lib.hid (rtN n)
  have HCH := Lib.hid fun W => countByHighest_ret n W
  have h64a := hi64.1
  have h64b := hi64.2
  clear hbd HBC HD1 hi64
  go_wp2_with fail
  refine (N1.out _).mono ?_
  rintro e wc1 ⟨vc1, rfl, hr, hb⟩
  have HBc1 := Lib.hid (HBD.out.trans (hb.mono HBD.out.size))
  have PA_c1 := Lib.hid hr
  clear hb hr HBD
  go_wp2_with fail
  refine (N2.out _).mono ?_
  rintro e wc2 ⟨vc2, rfl, hr, hb⟩
  have HBc2 := Lib.hid (HBc1.out.trans (hb.mono HBc1.out.size))
  have PA_c2 := Lib.hid (PA_c1.out.below hb)
  have PB_c2 := Lib.hid hr
  clear hb hr HBc1 PA_c1
  go_wp2_with fail
  refine (N3.out _).mono ?_
  rintro e wc3 ⟨vc3, rfl, hr, hb⟩
  have HBc3 := Lib.hid (HBc2.out.trans (hb.mono HBc2.out.size))
  have PA_c3 := Lib.hid (PA_c2.out.below hb)
  have PB_c3 := Lib.hid (PB_c2.out.below hb)
  have QA_c3 := Lib.hid hr
  clear hb hr HBc2 PA_c2 PB_c2
  go_wp2_with fail
  refine (N4.out _).mono ?_
  rintro e wc4 ⟨vc4, rfl, hr, hb⟩
  have HBc4 := Lib.hid (HBc3.out.trans (hb.mono HBc3.out.size))
  have PA_c4 := Lib.hid (PA_c3.out.below hb)
  have PB_c4 := Lib.hid (PB_c3.out.below hb)
  have QA_c4 := Lib.hid (QA_c3.out.below hb)
  have QB_c4 := Lib.hid hr
  clear hb hr HBc3 PA_c3 PB_c3 QA_c3
  go_wp2_with fail
  refine (N5.out _).mono ?_
  rintro e wc5 ⟨vc5, rfl, hr, hb⟩
  have HBc5 := Lib.hid (HBc4.out.trans (hb.mono HBc4.out.size))
  have PA_c5 := Lib.hid (PA_c4.out.below hb)
  have PB_c5 := Lib.hid (PB_c4.out.below hb)
  have QA_c5 := Lib.hid (QA_c4.out.below hb)
  have QB_c5 := Lib.hid (QB_c4.out.below hb)
  have TA_c5 := Lib.hid hr
  clear hb hr HBc4 PA_c4 PB_c4 QA_c4 QB_c4
  go_wp2_with fail
  refine (N6.out _).mono ?_
  rintro e wc6 ⟨vc6, rfl, hr, hb⟩
  have HBc6 := Lib.hid (HBc5.out.trans (hb.mono HBc5.out.size))
  have PA_c6 := Lib.hid (PA_c5.out.below hb)
  have PB_c6 := Lib.hid (PB_c5.out.below hb)
  have QA_c6 := Lib.hid (QA_c5.out.below hb)
  have QB_c6 := Lib.hid (QB_c5.out.below hb)
  have TA_c6 := Lib.hid (TA_c5.out.below hb)
  have TB_c6 := Lib.hid hr
  clear hb hr HBc5 PA_c5 PB_c5 QA_c5 QB_c5 TA_c5
  go_wp2_with fail
  refine (N7.out _).mono ?_
  rintro e wc7 ⟨rfl, hb⟩
  have HBc7 := Lib.hid (HBc6.out.trans (hb.mono HBc6.out.size))
  have PA_c7 := Lib.hid (PA_c6.out.below hb)
  have PB_c7 := Lib.hid (PB_c6.out.below hb)
  have QA_c7 := Lib.hid (QA_c6.out.below hb)
  have QB_c7 := Lib.hid (QB_c6.out.below hb)
  have TA_c7 := Lib.hid (TA_c6.out.below hb)
  have TB_c7 := Lib.hid (TB_c6.out.below hb)
  clear hb HBc6 PA_c6 PB_c6 QA_c6 QB_c6 TA_c6 TB_c6
  go_wp2_with fail
  refine (N8.out _).mono ?_
  rintro e wc8 ⟨rfl, hb⟩
  have HBc8 := Lib.hid (HBc7.out.trans (hb.mono HBc7.out.size))
  have PA_c8 := Lib.hid (PA_c7.out.below hb)
  have PB_c8 := Lib.hid (PB_c7.out.below hb)
  have QA_c8 := Lib.hid (QA_c7.out.below hb)
  have QB_c8 := Lib.hid (QB_c7.out.below hb)
  have TA_c8 := Lib.hid (TA_c7.out.below hb)
  have TB_c8 := Lib.hid (TB_c7.out.below hb)
  clear hb HBc7 PA_c7 PB_c7 QA_c7 QB_c7 TA_c7 TB_c7
  go_wp2_with fail
  refine (ySame_same vc1 vc2 (prL rrF n) _ _ _ PA_c8.out PB_c8.out HLA.out.1).mono ?_
  rintro e wc9 ⟨rfl, nc9, rfl⟩
  have HBc9 := Lib.hid (below_drewN HBc8.out nc9)
  have PA_c9 := Lib.hid (PA_c8.out.drewN nc9)
  have PB_c9 := Lib.hid (PB_c8.out.drewN nc9)
  have QA_c9 := Lib.hid (QA_c8.out.drewN nc9)
  have QB_c9 := Lib.hid (QB_c8.out.drewN nc9)
  have TA_c9 := Lib.hid (TA_c8.out.drewN nc9)
  have TB_c9 := Lib.hid (TB_c8.out.drewN nc9)
  clear HBc8 PA_c8 PB_c8 QA_c8 QB_c8 TA_c8 TB_c8
  generalize wc8.drewN nc9 = wc9 at *
  go_wp2_with fail
  refine (ySame_same vc3 vc4 (prL abF n) _ _ _ QA_c9.out QB_c9.out HLA.out.2).mono ?_
  rintro e wc10 ⟨rfl, nc10, rfl⟩
  have HBc10 := Lib.hid (below_drewN HBc9.out nc10)
  have PA_c10 := Lib.hid (PA_c9.out.drewN nc10)
  have PB_c10 := Lib.hid (PB_c9.out.drewN nc10)
  have QA_c10 := Lib.hid (QA_c9.out.drewN nc10)
  have QB_c10 := Lib.hid (QB_c9.out.drewN nc10)
  have TA_c10 := Lib.hid (TA_c9.out.drewN nc10)
  have TB_c10 := Lib.hid (TB_c9.out.drewN nc10)
  clear HBc9 PA_c9 PB_c9 QA_c9 QB_c9 TA_c9 TB_c9
  generalize wc9.drewN nc10 = wc10 at *
  go_wp2_with fail
  refine (ySame_same vc5 vc6 (prL abF n) _ _ _ TA_c10.out TB_c10.out HLA.out.2).mono ?_
  rintro e wc11 ⟨rfl, nc11, rfl⟩
  have HBc11 := Lib.hid (below_drewN HBc10.out nc11)
  have PA_c11 := Lib.hid (PA_c10.out.drewN nc11)
  have PB_c11 := Lib.hid (PB_c10.out.drewN nc11)
  have QA_c11 := Lib.hid (QA_c10.out.drewN nc11)
  have QB_c11 := Lib.hid (QB_c10.out.drewN nc11)
  have TA_c11 := Lib.hid (TA_c10.out.drewN nc11)
  have TB_c11 := Lib.hid (TB_c10.out.drewN nc11)
  clear HBc10 PA_c10 PB_c10 QA_c10 QB_c10 TA_c10 TB_c10
  generalize wc10.drewN nc11 = wc11 at *
  clear N1 N2 N3 N4 N5 N6 N7 N8
  generalize hok : prB n = ok at *
  have HOK := Lib.hid hok
  clear hok
  cases ok with
  | false =>
    go_wp2_with fail
    go_ret
    exact ⟨rfl, HBc11.out⟩
  | true =>
  obtain ⟨m, Z, S, rfl, hz, R⟩ := HRN.out rfl
  have HR := Lib.hid R
  have hm15 := R.m15
  have HCW : Hid (∀ W, Calls Try.prog 70 #[.int .i64 (m : Int)] W (IntsRet W true (prL rrF (m : Int)))) := Lib.hid fun W => by
    have := HCH.out W
    rwa [HR.out.hc, HR.out.ok] at this
  rw [hz]
  clear R HRN HCH hz HOK
  go_wp2_with fail
  refine (HCW.out _).mono ?_
  rintro e wc12 ⟨vc12, rfl, hr, hb⟩
  have HBc12 := Lib.hid (HBc11.out.trans (hb.mono HBc11.out.size))
  have PA_c12 := Lib.hid (PA_c11.out.below hb)
  have PB_c12 := Lib.hid (PB_c11.out.below hb)
  have QA_c12 := Lib.hid (QA_c11.out.below hb)
  have QB_c12 := Lib.hid (QB_c11.out.below hb)
  have TA_c12 := Lib.hid (TA_c11.out.below hb)
  have TB_c12 := Lib.hid (TB_c11.out.below hb)
  have HI_c12 := Lib.hid hr
  clear hb hr HBc11 PA_c11 PB_c11 QA_c11 QB_c11 TA_c11 TB_c11
  go_wp2_with fail
  refine (HR.out.cp _).mono ?_
  rintro e wc13 ⟨rfl, rfl⟩
  go_wp2_with fail
  refine (ySame_same vc1 vc12 (prL rrF (m : Int)) _ _ _ PA_c12.out HI_c12.out HLA.out.1).mono ?_
  rintro e wc14 ⟨rfl, nc14, rfl⟩
  have HBc14 := Lib.hid (below_drewN HBc12.out nc14)
  have PA_c14 := Lib.hid (PA_c12.out.drewN nc14)
  have PB_c14 := Lib.hid (PB_c12.out.drewN nc14)
  have QA_c14 := Lib.hid (QA_c12.out.drewN nc14)
  have QB_c14 := Lib.hid (QB_c12.out.drewN nc14)
  have TA_c14 := Lib.hid (TA_c12.out.drewN nc14)
  have TB_c14 := Lib.hid (TB_c12.out.drewN nc14)
  have HI_c14 := Lib.hid (HI_c12.out.drewN nc14)
  clear HBc12 PA_c12 PB_c12 QA_c12 QB_c12 TA_c12 TB_c12 HI_c12
  generalize wc12.drewN nc14 = wc14 at *
  go_wp2_with fail
  refine (ySum_any vc3 (prL abF (m : Int)) _ _ QA_c14.out (by rw [HR.out.ln]; omega) HR.out.bd).mono ?_
  rintro e wc15 ⟨rfl, rfl⟩
  rw [HR.out.sm]
  go_wp2_with fail
  refine (HR.out.yp _).mono ?_
  rintro e wc16 ⟨rfl, rfl⟩
  go_wp2_with fail
  refine (ySame_same vc3 vc5 (prL abF (m : Int)) _ _ _ QA_c14.out TA_c14.out HLA.out.2).mono ?_
  rintro e wc17 ⟨rfl, nc17, rfl⟩
  have HBc17 := Lib.hid (below_drewN HBc14.out nc17)
  have PA_c17 := Lib.hid (PA_c14.out.drewN nc17)
  have PB_c17 := Lib.hid (PB_c14.out.drewN nc17)
  have QA_c17 := Lib.hid (QA_c14.out.drewN nc17)
  have QB_c17 := Lib.hid (QB_c14.out.drewN nc17)
  have TA_c17 := Lib.hid (TA_c14.out.drewN nc17)
  have TB_c17 := Lib.hid (TB_c14.out.drewN nc17)
  have HI_c17 := Lib.hid (HI_c14.out.drewN nc17)
  clear HBc14 PA_c14 PB_c14 QA_c14 QB_c14 TA_c14 TB_c14 HI_c14
  generalize wc14.drewN nc17 = wc17 at *
  have HQ := Lib.hid QA_c17.out
  have HT := Lib.hid TA_c17.out
  have HBZ := Lib.hid HBc17.out
  clear HBc17 PA_c17 PB_c17 QA_c17 QB_c17 TA_c17 TB_c17 HI_c17
  obtain ⟨g, c, rfl, _, _⟩ := HT.out.form' HR.out.ln (by omega)
  obtain ⟨gq, cq, rfl, _, _⟩ := HQ.out.form' HR.out.ln (by omega)
  have e0 := HT.out.cell (j := 0) (by rw [HR.out.ln]; omega)
  have em := HT.out.cell (j := m) (by rw [HR.out.ln]; omega)
  rw [HR.out.z0] at e0
  rw [HR.out.zm] at em
  have y0 : (m : Int) < (m : Int) + 1 := by omega
  have HE0 := Lib.hid e0
  have HEM := Lib.hid em
  have hm64 : (m : Int) ≤ 15 := by omega
  go_wp2_with fail
  clear e0 em y0 HE0 HEM HT
  go_loopw [4, 414] (fun sv kv wr => ∃ k : Nat, k ≤ m + 1 ∧ sv = .bool false ∧ kv = .int .i64 (k : Int) ∧ ∃ q, wr = wc17.drewN q) (fun _ kv _ => m + 1 - (intOf kv).toNat)
  case atStart => exact ⟨0, Nat.zero_le _, rfl, rfl, 0, rfl⟩
  case round =>
    obtain ⟨k, hk, rfl, rfl, q, rfl⟩ := hrel
    by_cases hlt : k < m + 1
    · have e1 := HQ.out.cell (j := k) (by rw [HR.out.ln]; omega)
      have e2 := HQ.out.cell (j := m - k) (by rw [HR.out.ln]; omega)
      have hs := HR.out.sy k (by omega)
      rw [← hs] at e2
      have HS := Lib.hid hs
      clear hs
      generalize (prL abF (m : Int)).getD k 0 = x at *
      obtain ⟨d, hd⟩ : ∃ d, m - k = d := ⟨_, rfl⟩
      rw [hd] at e2
      have h4 : (m : Int) - (k : Int) = (d : Int) := by omega
      have h5 : (k : Int) < (m : Int) + 1 := by omega
      have h6 : (d : Int) < (m : Int) + 1 := by omega
      have h7 : d < m + 1 := by omega
      have HDD := Lib.hid hd
      clear hd
      go_wp2_with fail
      go_quiet (fail)
      go_wp2_with fail
      go_roundw
      case rel => exact ⟨k + 1, by omega, rfl, by go_num, _, rfl⟩
      case measure => simp [intOf]; omega
    · obtain rfl : k = m + 1 := by omega
      go_wp2_with fail
      go_ret
      exact ⟨rfl, below_drewN HBZ.out q⟩
end Go.Proofs.Ytachijliaedndaa
