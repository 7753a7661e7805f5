/- spec.CountWithTies. -/
import Derived.Test.YtcnggafbdjhagaaTab
import Derived.Test.YtcnggafbdjhagaaTieMath
import Derived.Test.YtcnggafbdjhagaaRestMath
import Derived.Test.YtcnggafbdjhagaaChoose
import Derived.RegionTactic
import Derived.ChangeAlike
namespace Go.Proofs.Ytcnggafbdjhagaa
open Go.RowKit
def TV (i c : Nat) : Int := (tieW c i : Nat)
theorem TV_0 {i : Nat} (h : 1 ≤ i) : TV i 0 = 0 := by unfold TV tieW; rw [if_neg (by omega)]; rfl
theorem TV_start (j c : Nat) : (if j = 0 ∧ c = 0 then (1 : Int) else 0) = stT TV 1 0 j c := by
  by_cases h : j = 0
  · subst h
    rw [stT_old (by omega)]
    cases c with
    | zero => rfl
    | succ c => rw [if_neg (by omega)]; rfl
  · rw [if_neg (by omega), stT_new (by omega)]
/-- row i full up to c, entry c the sum of the first parts up to m -/
def stS (i c m : Nat) (j c' : Nat) : Int := if j = i ∧ c' = c + 1 then (tieS (tieW c) i m : Nat) else stT TV i (c + 1) j c'
theorem stS_0 (i c j c' : Nat) : stT TV i (c + 1) j c' = stS i c 0 j c' := by
  unfold stS
  by_cases h : j = i ∧ c' = c + 1
  · obtain ⟨rfl, rfl⟩ := h
    rw [if_pos ⟨rfl, rfl⟩, stT_new (by omega)]; rfl
  · rw [if_neg h]
theorem stS_end (i c j c' : Nat) : stS i c i j c' = stT TV i (c + 1 + 1) j c' := by
  rw [← stT_set]
  rfl
theorem stS_set (i c m : Nat) (j c' : Nat) : (if j = i ∧ c' = c + 1 then ((tieS (tieW c) i m : Nat) : Int) + 2 * (catN (m + 1) : Nat) * TV (i - (m + 1)) c else stS i c m j c') = stS i c (m + 1) j c' := by
  unfold stS
  by_cases h : j = i ∧ c' = c + 1
  · rw [if_pos h, if_pos h, tieS]
    unfold TV
    simp
  · rw [if_neg h, if_neg h, if_neg h]
theorem stT_next2 {V : Nat → Nat → Int} {J m c : Nat} (hc : c < m) (j : Nat) : stT V J m j c = stT V (J + 1) 0 j c := by
  by_cases h : j < J + 1
  · exact stT_next hc h
  · rw [stT_new (by omega), stT_new (by omega)]
theorem stS_at (i c m : Nat) : stS i c m i (c + 1) = ((tieS (tieW c) i m : Nat) : Int) := if_pos ⟨rfl, rfl⟩
theorem stS_old {i c m j : Nat} (h : j < i) : stS i c m j c = TV j c := by
  unfold stS
  rw [if_neg (by omega), stT_old (by omega)]
def cwOk (n t : Int) : Bool := inB n 0 20 && inB t 0 20
def cwV (n t : Int) : Int := if cwOk n t then (tieW t.toNat n.toNat : Nat) else 0
set_option maxRecDepth 100000 in
set_option maxHeartbeats 1000000 in
theorem specCwt_yes (n t : Nat) (w : World) (hn : n ≤ 20) (ht : t ≤ 20) :
    Calls Try.prog 52 #[.int .i64 n, .int .i64 t] w (Ret w (.tuple #[.int .i64 (tieW t n : Nat), .bool true])) := by
  obtain ⟨i0, hi, hz0, hz1, hz2⟩ := info_parts rowInfo
  obtain ⟨j0, hj, hk0, hk1, hk2⟩ := info_parts intInfo
  have in1 : inB (n : Int) 0 20 = true := inB_yes (by omega)
  have in2 : inB (t : Int) 0 20 = true := inB_yes (by omega)
  go_enter Try.func52, Try.ntmps52
  go_wp2_with fail
  refine (in_any _ _ _ _).mono ?_; rintro e w' ⟨rfl, rfl⟩; rw [in1]
  go_wp2_with fail
  refine (in_any _ _ _ _).mono ?_; rintro e w' ⟨rfl, rfl⟩; rw [in2]
  go_wp2_with (refine wpList_make_full _ rfl (.tmp 21) (.tmp 21) 74 rfl w.heap.size 27 i0 (.slice none 0 0) 1 Try.underlying74 hi hz0 hz1 .i64 .i64 _ _ (n + 1) rfl rfl (by omega) (by omega) (by rw [hz2]; omega) (by unfold maxLen; omega) (Nat.le_refl _) ?_; intro w0 hown0 hgrow0)
  have hT0 : Tab w0 w.heap.size w.heap.size (n + 1) (t + 1) (fun _ => 0) 0 (fun _ _ => 0) := Tab.start (Nat.le_refl _) (by rw [madeOne _ rfl] at hown0; exact hown0)
  have hb0 : Below w.heap.size w w0 := (Below.refl _ _).grown hgrow0 (Nat.le_refl _) (by simp)
  have HT0 := Lib.hid hT0
  clear hown0 hgrow0 hT0
  go_loopw [25] (fun jj wr => ∃ (J : Nat) (blk : Nat → Nat), J ≤ n + 1 ∧ jj = .int .i64 (J : Int) ∧ Hid (Tab wr w.heap.size w.heap.size (n + 1) (t + 1) blk J (fun _ _ => 0)) ∧ Below w.heap.size w wr) (fun jj _ => n + 1 - (intOf jj).toNat)
  case atStart => exact ⟨0, _, by omega, rfl, HT0, hb0⟩
  case round =>
    obtain ⟨J, blk, hJ, rfl, HT, hb⟩ := hrel
    clear HT0 hb0
    have hsz := hb.size
    by_cases hlt : J < n + 1
    · have i1 : (J : Int) < (n : Int) + 1 := by omega
      go_wp2_with (refine wpList_make_full _ rfl (.tmp 31) (.tmp 31) 27 rfl wr.heap.size 3 j0 (.int .i64 0) 1 Try.underlying27 hj hk0 hk1 .i64 .i64 _ _ (t + 1) rfl rfl (by omega) (by omega) (by rw [hk2]; omega) (by unfold maxLen; omega) (Nat.le_refl _) ?_; intro w1 hown1 hgrow1; have hrow1 : IRow w1 wr.heap.size (.slice (some ⟨wr.heap.size, 0, none⟩) (t + 1) (t + 1)) (List.replicate (t + 1) 0) := (IRow.of_own hown1 (by simp) (by rw [madeOne _ rfl]; simp)); have hb1 : Below wr.heap.size wr w1 := ((Below.refl _ _).grown hgrow1 (Nat.le_refl _) (by simp)); have HP := Lib.hid ((HT.out.push (by omega) hsz hb1 hrow1).congr (fun j c _ _ => (by split <;> rfl : (if j = J then (0 : Int) else 0) = 0))); have hy := (HT.out.below hb1).yet J (Nat.le_refl _) (by omega); have hof := (HT.out.below hb1).outF J; clear hown1 hgrow1 hrow1)
      have hb2 : Below w.heap.size w (w1.setCell ⟨w.heap.size, J, none⟩ (.slice (some ⟨wr.heap.size, 0, none⟩) (t + 1) (t + 1))) := (hb.trans (hb1.mono hsz)).setCell (Nat.le_refl _) _
      go_roundw
      case rel => exact ⟨J + 1, _, by omega, by go_num, HP, hb2⟩
      case measure => first | (simp [intOf]; done) | (simp [intOf]; omega)
    · have HK : Hid (J = n + 1) := by unfold Hid; omega
      have hT := HT.out
      rw [HK.out] at hT
      have e1 := hT.made 0 (by omega)
      have e2 := hT.cell 0 0 (by omega) (by omega)
      have f2 := hT.free 0 0 (by omega)
      have i1 : (0 : Int) < (n : Int) + 1 := by omega
      have i2 : (0 : Int) < (t : Int) + 1 := by omega
      have HS := Lib.hid ((hT.set 0 0 1 (by omega) (by omega)).congr (fun j c _ _ => TV_start j c))
      have hbk := (hT.blkB 0 (by omega)).1
      clear hT
      have hjb : decide ((J : Int) < (n : Int) + 1) = false := decide_eq_false (by omega)
      go_wp2
      have hb3 : Below w.heap.size w (wr.setCell ⟨blk 0, 0, none⟩ (.int .i64 1)) := hb.setCell hbk _
      generalize wr.setCell ⟨blk 0, 0, none⟩ (.int .i64 1) = wx at *
      clear e1 e2 f2 hb HT hsz
      go_loopw [8] (fun ii wr => ∃ (i : Nat), 1 ≤ i ∧ i ≤ n + 1 ∧ ii = .int .i64 (i : Int) ∧ Hid (Tab wr w.heap.size w.heap.size (n + 1) (t + 1) blk (n + 1) (stT TV i 0)) ∧ Below w.heap.size w wr) (fun ii _ => n + 1 - (intOf ii).toNat)
      case atStart => exact ⟨1, by omega, by omega, rfl, HS, hb3⟩
      case round =>
        obtain ⟨i, hi1, hin, rfl, HT, hb⟩ := hrel
        clear HS hb3
        by_cases hlt2 : i < n + 1
        · obtain ⟨wo, rfl⟩ : ∃ wo : World, wo = wr := ⟨_, rfl⟩
          have HT1 : Hid (Tab wo w.heap.size w.heap.size (n + 1) (t + 1) blk (n + 1) (stT TV i (0 + 1))) := Lib.hid (HT.out.congr (fun j c _ _ => stT_skip (TV_0 hi1) j c))
          have qi : decide (i ≤ n) = true := decide_eq_true (by omega)
          go_wp2
          go_loopw [9] (fun cc wr => ∃ (c : Nat), c ≤ t ∧ cc = .int .i64 ((c : Int) + 1) ∧ Hid (Tab wr w.heap.size w.heap.size (n + 1) (t + 1) blk (n + 1) (stT TV i (c + 1))) ∧ Below w.heap.size w wr) (fun cc _ => t + 1 - (intOf cc).toNat)
          case atStart => exact ⟨0, by omega, rfl, HT1, hb⟩
          case round =>
            obtain ⟨c, hct, rfl, HT2, hb2⟩ := hrel
            clear HT1 HT hb
            by_cases hlt3 : c < t
            · obtain ⟨wp, rfl⟩ : ∃ wp : World, wp = wr := ⟨_, rfl⟩
              have HT3 : Hid (Tab wp w.heap.size w.heap.size (n + 1) (t + 1) blk (n + 1) (stS i c 0)) := Lib.hid (HT2.out.congr (fun j c' _ _ => stS_0 i c j c'))
              have qc : decide ((c : Int) + 1 ≤ (t : Int)) = true := decide_eq_true (by omega)
              go_wp2
              go_loopw [10] (fun ff wr => ∃ (m : Nat), m ≤ i ∧ ff = .int .i64 ((m : Int) + 1) ∧ Hid (Tab wr w.heap.size w.heap.size (n + 1) (t + 1) blk (n + 1) (stS i c m)) ∧ Below w.heap.size w wr) (fun ff _ => i + 1 - (intOf ff).toNat)
              case atStart => exact ⟨0, by omega, rfl, HT3, hb2⟩
              case round =>
                obtain ⟨m, hmi, rfl, HT4, hb4⟩ := hrel
                clear HT3 HT2 hb2
                by_cases hlt4 : m < i
                · have hsz4 := hb4.size
                  have hcs := chs_small40 (2 * (m + 1) - 2) (m + 1 - 1) (by omega)
                  have HCN : Hid (catN (m + 1) = chs (2 * (m + 1) - 2) (m + 1 - 1) / (m + 1)) := Lib.hid rfl
                  have HCH0 : Hid (∀ x y : Int, x = 2 * ((m : Int) + 1) - 2 → y = (m : Int) + 1 - 1 → chZ x y = (chs (2 * (m + 1) - 2) (m + 1 - 1) : Nat)) := Lib.hid fun x y hx hy => by
                    have := chZ_nat (2 * (m + 1) - 2) (m + 1 - 1)
                    rw [show ((2 * (m + 1) - 2 : Nat) : Int) = x by omega, show ((m + 1 - 1 : Nat) : Int) = y by omega] at this
                    exact this
                  obtain ⟨ch, hch⟩ : ∃ ch, ch = chs (2 * (m + 1) - 2) (m + 1 - 1) := ⟨_, rfl⟩
                  rw [← hch] at hcs HCN HCH0
                  have HCH := HCH0
                  clear hch HCH0
                  have HQ : Hid ((ch : Int) / ((m : Int) + 1) = (catN (m + 1) : Nat)) := by
                    unfold Hid
                    rw [HCN.out, show (m : Int) + 1 = ((m + 1 : Nat) : Int) by omega]
                    exact (Int.natCast_ediv _ _).symm
                  have hcb : catN (m + 1) ≤ ch := by rw [HCN.out]; exact Nat.div_le_self _ _
                  have hdv : 0 ≤ (ch : Int) / ((m : Int) + 1) ∧ (ch : Int) / ((m : Int) + 1) ≤ 1099511627776 := by rw [HQ.out]; omega
                  have hsm := tieS_small (t := c) (i := i) (m := m + 1) (by omega) (by omega) (by omega)
                  rw [tieS] at hsm
                  have HV : Hid (TV (i - (m + 1)) c = (tieW c (i - (m + 1)) : Nat)) := Lib.hid rfl
                  have e0b : (m : Int) + 1 ≤ (i : Int) := by omega
                  go_wp2_with (go_at_call 68; refine (choose_ret _ _ _ (by omega)).mono ?_; rintro e w5 ⟨rfl, hb5⟩; rw [HCH.out _ _ (by omega) (by omega)]; have HT5 := Lib.hid (HT4.out.below hb5))
                  rw [HQ.out]
                  have e1 := HT5.out.made i (by omega)
                  have e2 := HT5.out.cell i (c + 1) (by omega) (by omega)
                  rw [stS_at] at e2
                  have f2 := HT5.out.free i (c + 1) (by omega)
                  have e3 := HT5.out.made (i - (m + 1)) (by omega)
                  have e4 := HT5.out.cell (i - (m + 1)) c (by omega) (by omega)
                  rw [stS_old (show i - (m + 1) < i by omega), HV.out] at e4
                  have HS5 := Lib.hid ((HT5.out.set i (c + 1) (((tieS (tieW c) i m : Nat) : Int) + 2 * (catN (m + 1) : Nat) * TV (i - (m + 1)) c) (by omega) (by omega)).congr (fun j c' _ _ => stS_set i c m j c'))
                  have hbk5 := (HT5.out.blkB i (by omega)).1
                  rw [HV.out] at HS5
                  clear HV HQ HCH hdv
                  generalize hS : tieS (tieW c) i m = sv at *
                  generalize hC : catN (m + 1) = cv at *
                  generalize hW : tieW c (i - (m + 1)) = tv at *
                  have HHS := Lib.hid hS
                  have HHC := Lib.hid hC
                  have HHW := Lib.hid hW
                  clear hS hC hW
                  have hcv : (cv : Int) ≤ 1099511627776 := by omega
                  have hpm : 0 ≤ 2 * (cv : Int) * (tv : Int) ∧ (sv : Int) + 2 * (cv : Int) * (tv : Int) ≤ 1099511627776 := by
                    have h1 : (2 * (cv : Int) * (tv : Int)) = ((2 * cv * tv : Nat) : Int) := by simp
                    rw [h1]; omega
                  have i7 : (i : Int) < (n : Int) + 1 := by omega
                  have i8 : (c : Int) + 1 < (t : Int) + 1 := by omega
                  have i9 : (i : Int) - ((m : Int) + 1) = ((i - (m + 1) : Nat) : Int) := by omega
                  have i10 : ((i - (m + 1) : Nat) : Int) < (n : Int) + 1 := by omega
                  have i11 : (c : Int) < (t : Int) + 1 := by omega
                  have HI9 := Lib.hid i9
                  clear i9
                  go_region
                  go_wp2
                  go_roundw
                  case rel => exact ⟨m + 1, by omega, by go_num, Lib.hid HS5.out.drew, ((hb4.trans (hb5.mono hsz4)).setCell hbk5 _).drew⟩
                  case measure => first | (simp [intOf]; done) | (simp [intOf]; omega)
                · have HK2 : Hid (m = i) := by unfold Hid; omega
                  go_wp2
                  go_roundw
                  case rel => exact ⟨c + 1, by omega, by go_num, Lib.hid ((HK2.out ▸ HT4.out).congr (fun j c' _ _ => stS_end i c j c')), hb4⟩
                  case measure => first | (simp [intOf]; done) | (simp [intOf]; omega)
            · have HK3 : Hid (c = t) := by unfold Hid; omega
              go_wp2
              go_roundw
              case rel => exact ⟨i + 1, by omega, by omega, by go_num, Lib.hid ((HK3.out ▸ HT2.out).congr (fun j c' _ hc => stT_next2 hc j)), hb2⟩
              case measure => first | (simp [intOf]; done) | (simp [intOf]; omega)
        · have HK4 : Hid (i = n + 1) := by unfold Hid; omega
          have hT := HT.out
          rw [HK4.out] at hT
          have e1 := hT.made n (by omega)
          have e2 := hT.cell n t (by omega) (by omega)
          rw [stT_old (by omega)] at e2
          have i5 : (n : Int) < (n : Int) + 1 := by omega
          have i6 : (t : Int) < (t : Int) + 1 := by omega
          clear hT
          go_wp2
          go_ret2
          exact ⟨rfl, hb⟩
theorem cwOk_yes {n t : Int} (h : cwOk n t = true) : (0 ≤ n ∧ n ≤ 20) ∧ 0 ≤ t ∧ t ≤ 20 := by simpa [cwOk, inB] using h
set_option maxHeartbeats 400000 in
theorem specCwt_ret (n t : Int) (w : World) : Calls Try.prog 52 #[.int .i64 n, .int .i64 t] w (Ret w (.tuple #[.int .i64 (cwV n t), .bool (cwOk n t)])) := by
  unfold cwV
  rcases Bool.eq_false_or_eq_true (cwOk n t) with h | h
  · have h2 := cwOk_yes h
    obtain ⟨x, rfl⟩ := Int.eq_ofNat_of_zero_le h2.1.1
    obtain ⟨y, rfl⟩ := Int.eq_ofNat_of_zero_le h2.2.1
    rw [h, if_pos rfl, Int.toNat_natCast, Int.toNat_natCast]
    exact specCwt_yes x y w (by omega) (by omega)
  · rw [h]
    rcases Bool.eq_false_or_eq_true (inB n 0 20) with h1 | h1
    · have h2 : inB t 0 20 = false := by unfold cwOk at h; rw [h1, Bool.true_and] at h; exact h
      go_enter Try.func52, Try.ntmps52
      go_wp2_with fail
      refine (in_any _ _ _ _).mono ?_; rintro e w' ⟨rfl, rfl⟩; rw [h1]
      go_wp2_with fail
      refine (in_any _ _ _ _).mono ?_; rintro e w' ⟨rfl, rfl⟩; rw [h2]
      go_wp2
      go_ret2
      exact ⟨rfl, Below.refl _ _⟩
    · go_enter Try.func52, Try.ntmps52
      go_wp2_with fail
      refine (in_any _ _ _ _).mono ?_; rintro e w' ⟨rfl, rfl⟩; rw [h1]
      go_wp2
      go_ret2
      exact ⟨rfl, Below.refl _ _⟩
end Go.Proofs.Ytcnggafbdjhagaa
