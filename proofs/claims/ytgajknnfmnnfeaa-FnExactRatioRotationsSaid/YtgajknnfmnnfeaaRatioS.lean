/- The model's RatioRotations. -/
import Derived.Test.YtgajknnfmnnfeaaRatMath
import Derived.Test.YtgajknnfmnnfeaaPathOk
import Derived.Test.YtgajknnfmnnfeaaInB
import Derived.Test.YtgajknnfmnnfeaaLists
import Derived.Test.YtgajknnfmnnfeaaShrink
import Derived.Lib.OthersKept
import Derived.Laws.RangeString
import Derived.Laws.RangeAny
import Derived.Deep.RegionLaw
namespace Go.Proofs.Ytgajknnfmnnfeaa
open Go.RowKit
set_option linter.unusedVariables false
theorem IRow.iterAt {w : World} {B : Nat} {v : Value} {xs : List Int} {k : Nat} {s : ByteArray} {pos : Nat} (h : IRow w B v xs) (hk : w.heap[k]? = some (.stringIter s pos)) (pos' : Nat) : IRow (w.iterAt k s pos') B v xs := by
  refine ⟨h.1, ?_⟩
  rcases h.2 with h2 | ⟨g, cap, cur, hv, hB, hg, r⟩
  · exact .inl h2
  · exact .inr ⟨g, cap, cur, hv, hB, by rw [Lib.iterAt_other _ _ _ _ _ (fun e => by subst e; rw [hk] at hg; cases hg)]; exact hg, r⟩
theorem rot_cat (s : ByteArray) (i : Nat) (h : i ≤ s.size) : s.extract i s.size ++ s.extract 0 i = rotS s i := by
  apply ByteArray.ext
  apply Array.toList_inj.1
  have hl : s.data.toList.length = s.size := by simp
  rw [rotS_list, ByteArray.data_append, Array.toList_append, ByteArray.data_extract, ByteArray.data_extract, Array.toList_extract, Array.toList_extract]
  unfold rotL
  simp only [List.extract, List.drop_zero, Nat.sub_zero]
  rw [List.take_of_length_le (l := s.data.toList.drop i) (by rw [List.length_drop]; omega)]
theorem rot_ud {s : ByteArray} (hp : pathB s = true) (i : Nat) : ∀ p (h : p < (rotS s i).size), (rotS s i)[p] = 85 ∨ (rotS s i)[p] = 68 := fun p h => by
  have hm : (rotS s i)[p] ∈ (rotS s i).data.toList := by
    have : (rotS s i)[p] = (rotS s i).data.toList[p]'(by simpa using h) := rfl
    rw [this]; exact List.getElem_mem _
  rw [rotS_list] at hm
  unfold rotL at hm
  have hx : ∀ x ∈ s.data.toList, isUD x = true := by
    unfold pathB at hp
    rw [Bool.and_eq_true, List.all_eq_true] at hp
    exact hp.2
  rw [List.mem_append] at hm
  have : isUD (rotS s i)[p] = true := by
    rcases hm with hm | hm
    · exact hx _ (List.mem_of_mem_drop hm)
    · exact hx _ (List.mem_of_mem_take hm)
  unfold isUD at this
  simpa using this
set_option maxHeartbeats 2000000 in
theorem specRatio_ret (s : ByteArray) (k : Int) (w : World) (hs : s.size ≤ maxLen) :
    Calls Try.prog 56 #[.string s, .int .i64 k] w (IntsRet w (raOk s k) (raV s k)) := by
  have HP : Hid (∀ w, Calls Try.prog 78 #[.string s] w fun e w' => e = .returned (.bool (pathB s)) ∧ w = w') := Lib.hid fun w => paGood_any s w hs
  rcases Bool.eq_false_or_eq_true (pathB s) with hp | hp
  · have h40 := ((pathB_iff s).1 hp).1
    by_cases hk : 0 ≤ k ∧ k ≤ 40
    · have HI : Hid (inB k 0 40 = true) := Lib.hid (inB_yes hk)
      have e1 : raOk s k = true := by unfold raOk; rw [hp, decide_eq_true hk.1, decide_eq_true hk.2]; rfl
      have e2 : raV s k = rgs s k s.size := by unfold raV; rw [e1]; rfl
      rw [e1, e2]
      have HUD := Lib.hid (fun i => rot_ud hp i)
      have HASC : Hid (∀ j (h : j < s.size), (s[j]'h).toNat < 128) := Lib.hid fun j h => by
        have := ((pathB_iff s).1 hp).2 j h
        unfold isUD at this
        simp at this
        rcases this with e | e <;> rw [e] <;> decide
      rw [hp] at HP
      have hu := Try.underlying9
      have HSU : Hid (∀ i, rgs s k (i + 1) = if rgB s k i then rgs s k i ++ [(i : Int)] else rgs s k i) := Lib.hid fun _ => rfl
      have HLN := Lib.hid (rgs_length s k)
      clear e1 e2 hp
      have hk1 := hk.1
      have hk2 := hk.2
      clear hk
      have hit0 : (w.iter s 0).heap[w.heap.size]? = some (.stringIter s 0) := World.iter_heap w s 0
      have hb0 : Below w.heap.size w (w.iter s 0) := (Below.refl _ _).alloc (Nat.le_refl _) _
      have hz0 : (w.iter s 0).heap.size = w.heap.size + 1 := by simp [World.iter]
      go_enter Try.func56, Try.ntmps56
      go_wp2_with (first | (go_at_call 78; refine (HP.out _).mono ?_; rintro e w' ⟨rfl, rfl⟩) | (go_at_call 64; refine (in_any _ _ _ _).mono ?_; rintro e w' ⟨rfl, rfl⟩; rw [HI.out]))
      generalize w.iter s 0 = W0 at *
      go_loopw [6, 7, 8, 9, 11] (fun v q1 q2 q3 q4 wr => ∃ j : Nat, j ≤ s.size ∧ wr.heap[w.heap.size]? = some (.stringIter s j) ∧ IRow wr (w.heap.size + 1) v (rgs s k j) ∧ Below w.heap.size w wr ∧ w.heap.size + 1 ≤ wr.heap.size) (fun _ _ _ _ _ wr => s.size + 1 - wr.iterPos w.heap.size)
      case atStart => exact ⟨0, by omega, hit0, IRow.nil _ _, hb0, by omega⟩
      case round =>
        obtain ⟨j, hj, hit, hrow, hb, hsz⟩ := hrel
        clear hit0 hb0 hz0
        by_cases hlt : j < s.size
        · have hnx0 := fun ty => Lib.run_next_ascii_at (P := Try.prog) wr w.heap.size s j ty hit hlt (HASC.out j hlt)
          have HPOS : Hid (wr.iterPos w.heap.size = j) := Lib.hid (by unfold World.iterPos; rw [hit])
          have hrow1 := hrow.iterAt hit (j + 1)
          have hit1 := Lib.iterAt_heap wr w.heap.size s j (j + 1) hit
          have hb1 := Lib.below_iterAt hb (Nat.le_refl w.heap.size) s (j + 1)
          have hsz1 : w.heap.size + 1 ≤ (wr.iterAt w.heap.size s (j + 1)).heap.size := by rw [Lib.iterAt_size]; exact hsz
          clear hit hrow hb hsz
          generalize wr.iterAt w.heap.size s (j + 1) = W at *
          have b1 : (j : Int) ≤ (s.size : Int) := by omega
          have b2 : (0 : Int) ≤ (j : Int) := by omega
          have hcat := rot_cat s j (by omega)
          have hsz3 : ¬ (9223372036854775807 < s.size) := by omega
          go_wp2_with fail
          go_region_law fail
          have HRS : Hid ((rotS s j).size = s.size) := Lib.hid (rotS_size s j (by omega))
          have HUD1 := Lib.hid (HUD.out j)
          have HSU1 := Lib.hid (HSU.out j)
          have hln := HLN.out j
          have HRG : Hid (okTo (mg (rotS s j) k) s.size = rgB s k j) := Lib.hid rfl
          have hWs : (W.drew.iter (rotS s j) s.size).heap.size = W.heap.size + 1 := by simp [World.iter]
          have hrow2 : IRow (W.drew.iter (rotS s j) s.size) (w.heap.size + 1) _ _ := hrow1.drew.alloc _
          have hit2 : (W.drew.iter (rotS s j) s.size).heap[w.heap.size]? = some (.stringIter s (j + 1)) := (Below.heap_alloc W.drew _ _ (by show w.heap.size < W.heap.size; omega)).trans hit1
          have hb2 : Below w.heap.size w (W.drew.iter (rotS s j) s.size) := hb1.drew.alloc (by show w.heap.size ≤ W.heap.size; omega) _
          have HROW := Lib.hid hrow2
          have HIT := Lib.hid hit2
          have HB := Lib.hid hb2
          clear hrow1 hit1 hb1 hrow2 hit2 hb2 hnx0 hcat HUD HSU HLN HASC
          generalize rotS s j = R at *
          go_wp2_with fail
          go_loopw [8, 9, 11] (fun sm gd st wr => ∃ p : Nat, p ≤ s.size ∧ wr = W.drew.iter R p ∧ sm = .int .i64 (mg R k p) ∧ gd = .bool (okTo (mg R k) p)) (fun _ _ _ wr => s.size + 1 - wr.iterPos W.heap.size)
          case atStart => exact ⟨0, by omega, rfl, by rw [mg_zero], by rw [okTo_0]⟩
          case round =>
            obtain ⟨p, hp, rfl, rfl, rfl⟩ := hrel
            have HP1 : Hid (∀ q, (W.drew.iter R q).iterPos W.heap.size = q) := Lib.hid fun q => World.iterPos_iter W.drew R q
            by_cases hpl : p < s.size
            · have hpR : p < R.size := by rw [HRS.out]; exact hpl
              have hud := HUD1.out p hpR
              have hasc : (R[p]'hpR).toNat < 128 := by rcases hud with e | e <;> rw [e] <;> decide
              have hnx : ∀ ty, (Instr.next (.pointer (some ⟨W.heap.size, 0, none⟩)) true ty).run Try.prog (W.drew.iter R p) = .ok (.tuple #[.bool true, .int .i64 (p : Int), .int .i32 ((R[p]'hpR).toNat : Int)]) (W.drew.iter R (p + 1)) := fun ty => run_next_ascii W.drew R p ty hpR hasc
              have hbd := mg_bd40 R k ⟨hk1, hk2⟩ p (by omega)
              have HS := Lib.hid (mg_succ R k p hpR)
              have HOK := Lib.hid (okTo_succ (mg R k) p)
              generalize okTo (mg R k) p = G at *
              generalize mg R k p = M at *
              generalize hM1 : mg R k (p + 1) = M1 at *
              generalize hG1 : okTo (mg R k) (p + 1) = G1 at *
              have HM1 := Lib.hid hM1
              have HG1 := Lib.hid hG1
              clear hM1 hG1
              rcases hud with hc | hc
              · have hbb : (((R[p]'hpR).toNat : Int) == 85) = true := by rw [hc]; rfl
                rw [show stepK k ((R[p]'hpR).toNat : Int) = 1 by rw [hc]; rfl] at HS
                cases G with
                | true =>
                  by_cases hpos : 0 < M + 1
                  · have hg1 : G1 = true := by rw [HOK.out, HS.out, decide_eq_true hpos]; rfl
                    subst hg1
                    clear HOK
                    go_wp2_with fail
                    go_roundw
                    case rel => exact ⟨p + 1, by omega, rfl, by rw [HM1.out, HS.out], by rw [HG1.out]⟩
                    case measure => rw [HP1.out, HP1.out]; omega
                  · have hg1 : G1 = false := by rw [HOK.out, HS.out, decide_eq_false hpos]; rfl
                    subst hg1
                    clear HOK
                    go_wp2_with fail
                    go_roundw
                    case rel => exact ⟨p + 1, by omega, rfl, by rw [HM1.out, HS.out], by rw [HG1.out]⟩
                    case measure => rw [HP1.out, HP1.out]; omega
                | false =>
                  have hg1 : G1 = false := by rw [HOK.out]; rfl
                  subst hg1
                  clear HOK
                  go_wp2_with fail
                  go_roundw
                  case rel => exact ⟨p + 1, by omega, rfl, by rw [HM1.out, HS.out], by rw [HG1.out]⟩
                  case measure => rw [HP1.out, HP1.out]; omega
              · have hbb : (((R[p]'hpR).toNat : Int) == 85) = false := by rw [hc]; rfl
                rw [show stepK k ((R[p]'hpR).toNat : Int) = -k by rw [hc]; rfl] at HS
                cases G with
                | true =>
                  by_cases hpos : 0 < M - k
                  · have hpos2 : k < M := by omega
                    have hg1 : G1 = true := by rw [HOK.out, HS.out, decide_eq_true (show 0 < M + -k by omega)]; rfl
                    subst hg1
                    clear HOK
                    go_wp2_with fail
                    go_roundw
                    case rel => exact ⟨p + 1, by omega, rfl, by rw [HM1.out, HS.out]; rfl, by rw [HG1.out]⟩
                    case measure => rw [HP1.out, HP1.out]; omega
                  · have hpos2 : ¬ k < M := by omega
                    have hg1 : G1 = false := by rw [HOK.out, HS.out, decide_eq_false (show ¬ 0 < M + -k by omega)]; rfl
                    subst hg1
                    clear HOK
                    go_wp2_with fail
                    go_roundw
                    case rel => exact ⟨p + 1, by omega, rfl, by rw [HM1.out, HS.out]; rfl, by rw [HG1.out]⟩
                    case measure => rw [HP1.out, HP1.out]; omega
                | false =>
                  have hg1 : G1 = false := by rw [HOK.out]; rfl
                  subst hg1
                  clear HOK
                  go_wp2_with fail
                  go_roundw
                  case rel => exact ⟨p + 1, by omega, rfl, by rw [HM1.out, HS.out]; rfl, by rw [HG1.out]⟩
                  case measure => rw [HP1.out, HP1.out]; omega
            · have hpe : p = s.size := by omega
              subst hpe
              have hnx : ∀ ty, (Instr.next (.pointer (some ⟨W.heap.size, 0, none⟩)) true ty).run Try.prog (W.drew.iter R s.size) = .ok (.tuple #[.bool false]) (W.drew.iter R s.size) := fun ty => run_next_end W.drew R s.size ty (by rw [HRS.out]; exact hpl)
              rw [HRG.out]
              have hrow := HROW.out
              have hs4 : w.heap.size + 1 ≤ (W.drew.iter R s.size).heap.size := by omega
              generalize W.drew.iter R s.size = X at *
              generalize mg R k s.size = M at *
              by_cases hg : rgB s k j = true
              · rw [if_pos hg] at HSU1
                rw [hg]
                go_wp2_with (at_builtin; refine wpList_pushG (.tmp 49) (.tmp 51) rfl rfl (w.heap.size + 1) _ (rgs s k j) rfl hrow (W.heap.size + 1) hWs.symm rfl (by omega) hs4 ?_; intro v3 w3 hr3 hg3 hat3)
                have HR3 := Lib.hid hr3
                rw [← HSU1.out] at HR3
                have HB3 := Lib.hid (HB.out.grown hg3 (by omega) (fun q hq => by have := (hrow.blk q hq).1; omega))
                have HIT3 := Lib.hid ((hg3.block w.heap.size (by omega) (fun e => by have := (hrow.blk _ e.symm).1; omega)).trans HIT.out)
                have hs5 : w.heap.size + 1 ≤ w3.heap.size := Nat.le_trans hs4 hg3.size
                have HPP : Hid (w3.iterPos w.heap.size = j + 1) := Lib.hid (by unfold World.iterPos; rw [HIT3.out])
                clear hr3 hg3 hat3 hrow
                go_roundw
                case rel => exact ⟨j + 1, by omega, HIT3.out, HR3.out, HB3.out, hs5⟩
                case measure => rw [HPP.out, HPOS.out]; omega
              · rw [if_neg hg] at HSU1
                rw [Bool.not_eq_true] at hg
                rw [hg]
                have HR3 := Lib.hid hrow
                rw [← HSU1.out] at HR3
                have HPP : Hid (X.iterPos w.heap.size = j + 1) := Lib.hid (by unfold World.iterPos; rw [HIT.out])
                clear hrow
                go_wp2_with fail
                go_roundw
                case rel => exact ⟨j + 1, by omega, HIT.out, HR3.out, HB.out, hs4⟩
                case measure => rw [HPP.out, HPOS.out]; omega
        · have hk2 : j = s.size := by omega
          subst hk2
          have hnx0 := fun ty => Lib.run_next_end_at (P := Try.prog) wr w.heap.size s s.size ty hit hlt
          go_wp2_with fail
          go_ret2
          exact ⟨_, rfl, hrow.mono (by omega), hb⟩
    · have HI : Hid (inB k 0 40 = false) := Lib.hid (inB_no hk)
      have e1 : raOk s k = false := by unfold raOk; rw [hp, Bool.true_and, Bool.and_eq_false_iff, decide_eq_false_iff_not, decide_eq_false_iff_not]; omega
      have e2 : raV s k = [] := by unfold raV; rw [e1]; rfl
      rw [e1, e2]
      rw [hp] at HP
      clear e1 e2 hp hk
      go_enter Try.func56, Try.ntmps56
      go_wp2_with (first | (go_at_call 78; refine (HP.out _).mono ?_; rintro e w' ⟨rfl, rfl⟩) | (go_at_call 64; refine (in_any _ _ _ _).mono ?_; rintro e w' ⟨rfl, rfl⟩; rw [HI.out]))
      go_ret2
      exact ⟨_, rfl, IRow.nil _ _, Below.refl _ _⟩
  · have e1 : raOk s k = false := by unfold raOk; rw [hp, Bool.false_and]
    have e2 : raV s k = [] := by unfold raV; rw [e1]; rfl
    rw [e1, e2]
    rw [hp] at HP
    clear e1 e2 hp
    go_enter Try.func56, Try.ntmps56
    go_wp2_with (go_at_call 78; refine (HP.out _).mono ?_; rintro e w' ⟨rfl, rfl⟩)
    go_ret2
    exact ⟨_, rfl, IRow.nil _ _, Below.refl _ _⟩
end Go.Proofs.Ytgajknnfmnnfeaa
