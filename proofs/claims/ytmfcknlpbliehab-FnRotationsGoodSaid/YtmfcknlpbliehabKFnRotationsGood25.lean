/- Pack 25 of what FnRotationsGood needs: RatioS, RotL. -/
import Derived.Test.YtmfcknlpbliehabKFnRotationsGood24
import Derived.Lib.OthersKept
import Derived.Laws.RangeString
import Derived.Laws.RangeAny
import Derived.Deep.RegionLaw
import Derived.Deep.CutBlock
import Derived.Deep.DeepCutAuto
import Derived.Outline
import Derived.IntWalk
/- The model's RatioRotations. -/
namespace Go.Proofs.Ytmfcknlpbliehab
open Go.RowKit
set_option linter.unusedVariables false
theorem IRow.iterAt {w : World} {B : Nat} {v : Value} {xs : List Int} {k : Nat} {s : ByteArray} {pos : Nat} (h : IRow w B v xs) (hk : w.heap[k]? = some (.stringIter s pos)) (pos' : Nat) : IRow (w.iterAt k s pos') B v xs := by
  refine ⟨h.1, ?_⟩
  rcases h.2 with h2 | ⟨g, cap, cur, hv, hB, hg, r⟩
  · exact .inl h2
  · exact .inr ⟨g, cap, cur, hv, hB, by rw [Lib.iterAt_other _ _ _ _ _ (fun e => by subst e; rw [hk] at hg; cases hg)]; exact hg, r⟩
theorem rot_cat (s : ByteArray) (i : Nat) (h : i ≤ s.size) : s.extract i s.size ++ s.extract 0 i = rotS s i := by
  apply ByteArray.ext
  apply Array.toList_inj.1
  have hl : s.data.toList.length = s.size := by simp
  rw [rotS_list, ByteArray.data_append, Array.toList_append, ByteArray.data_extract, ByteArray.data_extract, Array.toList_extract, Array.toList_extract]
  unfold rotL
  simp only [List.extract, List.drop_zero, Nat.sub_zero]
  rw [List.take_of_length_le (l := s.data.toList.drop i) (by rw [List.length_drop]; omega)]
theorem rot_ud {s : ByteArray} (hp : pathB s = true) (i : Nat) : ∀ p (h : p < (rotS s i).size), (rotS s i)[p] = 85 ∨ (rotS s i)[p] = 68 := fun p h => by
  have hm : (rotS s i)[p] ∈ (rotS s i).data.toList := by
    have : (rotS s i)[p] = (rotS s i).data.toList[p]'(by simpa using h) := rfl
    rw [this]; exact List.getElem_mem _
  rw [rotS_list] at hm
  unfold rotL at hm
  have hx : ∀ x ∈ s.data.toList, isUD x = true := by
    unfold pathB at hp
    rw [Bool.and_eq_true, List.all_eq_true] at hp
    exact hp.2
  rw [List.mem_append] at hm
  have : isUD (rotS s i)[p] = true := by
    rcases hm with hm | hm
    · exact hx _ (List.mem_of_mem_drop hm)
    · exact hx _ (List.mem_of_mem_take hm)
  unfold isUD at this
  simpa using this
set_option maxHeartbeats 2000000 in
theorem specRatio_ret (s : ByteArray) (k : Int) (w : World) (hs : s.size ≤ maxLen) :
    Calls Try.prog 20 #[.string s, .int .i64 k] w (IntsRet w (raOk s k) (raV s k)) := by
  have HP : Hid (∀ w, Calls Try.prog 46 #[.string s] w fun e w' => e = .returned (.bool (pathB s)) ∧ w = w') := Lib.hid fun w => paGood_any s w hs
  rcases Bool.eq_false_or_eq_true (pathB s) with hp | hp
  · have h40 := ((pathB_iff s).1 hp).1
    by_cases hk : 0 ≤ k ∧ k ≤ 40
    · have HI : Hid (inB k 0 40 = true) := Lib.hid (inB_yes hk)
      have e1 : raOk s k = true := by unfold raOk; rw [hp, decide_eq_true hk.1, decide_eq_true hk.2]; rfl
      have e2 : raV s k = rgs s k s.size := by unfold raV; rw [e1]; rfl
      rw [e1, e2]
      have HUD := Lib.hid (fun i => rot_ud hp i)
      have HASC : Hid (∀ j (h : j < s.size), (s[j]'h).toNat < 128) := Lib.hid fun j h => by
        have := ((pathB_iff s).1 hp).2 j h
        unfold isUD at this
        simp at this
        rcases this with e | e <;> rw [e] <;> decide
      rw [hp] at HP
      have hu := Try.underlying9
      have HSU : Hid (∀ i, rgs s k (i + 1) = if rgB s k i then rgs s k i ++ [(i : Int)] else rgs s k i) := Lib.hid fun _ => rfl
      have HLN := Lib.hid (rgs_length s k)
      clear e1 e2 hp
      have hk1 := hk.1
      have hk2 := hk.2
      clear hk
      have hit0 : (w.iter s 0).heap[w.heap.size]? = some (.stringIter s 0) := World.iter_heap w s 0
      have hb0 : Below w.heap.size w (w.iter s 0) := (Below.refl _ _).alloc (Nat.le_refl _) _
      have hz0 : (w.iter s 0).heap.size = w.heap.size + 1 := by simp [World.iter]
      go_enter Try.func20, Try.ntmps20
      go_wp2_with (first | (go_at_call 46; refine (HP.out _).mono ?_; rintro e w' ⟨rfl, rfl⟩) | (go_at_call 47; refine (in_any _ _ _ _).mono ?_; rintro e w' ⟨rfl, rfl⟩; rw [HI.out]))
      generalize w.iter s 0 = W0 at *
      go_loopw [6, 7, 8, 9, 11] (fun v q1 q2 q3 q4 wr => ∃ j : Nat, j ≤ s.size ∧ wr.heap[w.heap.size]? = some (.stringIter s j) ∧ IRow wr (w.heap.size + 1) v (rgs s k j) ∧ Below w.heap.size w wr ∧ w.heap.size + 1 ≤ wr.heap.size) (fun _ _ _ _ _ wr => s.size + 1 - wr.iterPos w.heap.size)
      case atStart => exact ⟨0, by omega, hit0, IRow.nil _ _, hb0, by omega⟩
      case round =>
        obtain ⟨j, hj, hit, hrow, hb, hsz⟩ := hrel
        clear hit0 hb0 hz0
        by_cases hlt : j < s.size
        · have hnx0 := fun ty => Lib.run_next_ascii_at (P := Try.prog) wr w.heap.size s j ty hit hlt (HASC.out j hlt)
          have HPOS : Hid (wr.iterPos w.heap.size = j) := Lib.hid (by unfold World.iterPos; rw [hit])
          have hrow1 := hrow.iterAt hit (j + 1)
          have hit1 := Lib.iterAt_heap wr w.heap.size s j (j + 1) hit
          have hb1 := Lib.below_iterAt hb (Nat.le_refl w.heap.size) s (j + 1)
          have hsz1 : w.heap.size + 1 ≤ (wr.iterAt w.heap.size s (j + 1)).heap.size := by rw [Lib.iterAt_size]; exact hsz
          clear hit hrow hb hsz
          generalize wr.iterAt w.heap.size s (j + 1) = W at *
          have b1 : (j : Int) ≤ (s.size : Int) := by omega
          have b2 : (0 : Int) ≤ (j : Int) := by omega
          have hcat := rot_cat s j (by omega)
          have hsz3 : ¬ (9223372036854775807 < s.size) := by omega
          go_wp2_with fail
          go_region_law fail
          have HRS : Hid ((rotS s j).size = s.size) := Lib.hid (rotS_size s j (by omega))
          have HUD1 := Lib.hid (HUD.out j)
          have HSU1 := Lib.hid (HSU.out j)
          have hln := HLN.out j
          have HRG : Hid (okTo (mg (rotS s j) k) s.size = rgB s k j) := Lib.hid rfl
          have hWs : (W.drew.iter (rotS s j) s.size).heap.size = W.heap.size + 1 := by simp [World.iter]
          have hrow2 : IRow (W.drew.iter (rotS s j) s.size) (w.heap.size + 1) _ _ := hrow1.drew.alloc _
          have hit2 : (W.drew.iter (rotS s j) s.size).heap[w.heap.size]? = some (.stringIter s (j + 1)) := (Below.heap_alloc W.drew _ _ (by show w.heap.size < W.heap.size; omega)).trans hit1
          have hb2 : Below w.heap.size w (W.drew.iter (rotS s j) s.size) := hb1.drew.alloc (by show w.heap.size ≤ W.heap.size; omega) _
          have HROW := Lib.hid hrow2
          have HIT := Lib.hid hit2
          have HB := Lib.hid hb2
          clear hrow1 hit1 hb1 hrow2 hit2 hb2 hnx0 hcat HUD HSU HLN HASC
          generalize rotS s j = R at *
          go_wp2_with fail
          go_loopw [8, 9, 11] (fun sm gd st wr => ∃ p : Nat, p ≤ s.size ∧ wr = W.drew.iter R p ∧ sm = .int .i64 (mg R k p) ∧ gd = .bool (okTo (mg R k) p)) (fun _ _ _ wr => s.size + 1 - wr.iterPos W.heap.size)
          case atStart => exact ⟨0, by omega, rfl, by rw [mg_zero], by rw [okTo_0]⟩
          case round =>
            obtain ⟨p, hp, rfl, rfl, rfl⟩ := hrel
            have HP1 : Hid (∀ q, (W.drew.iter R q).iterPos W.heap.size = q) := Lib.hid fun q => World.iterPos_iter W.drew R q
            by_cases hpl : p < s.size
            · have hpR : p < R.size := by rw [HRS.out]; exact hpl
              have hud := HUD1.out p hpR
              have hasc : (R[p]'hpR).toNat < 128 := by rcases hud with e | e <;> rw [e] <;> decide
              have hnx : ∀ ty, (Instr.next (.pointer (some ⟨W.heap.size, 0, none⟩)) true ty).run Try.prog (W.drew.iter R p) = .ok (.tuple #[.bool true, .int .i64 (p : Int), .int .i32 ((R[p]'hpR).toNat : Int)]) (W.drew.iter R (p + 1)) := fun ty => run_next_ascii W.drew R p ty hpR hasc
              have hbd := mg_bd40 R k ⟨hk1, hk2⟩ p (by omega)
              have HS := Lib.hid (mg_succ R k p hpR)
              have HOK := Lib.hid (okTo_succ (mg R k) p)
              generalize okTo (mg R k) p = G at *
              generalize mg R k p = M at *
              generalize hM1 : mg R k (p + 1) = M1 at *
              generalize hG1 : okTo (mg R k) (p + 1) = G1 at *
              have HM1 := Lib.hid hM1
              have HG1 := Lib.hid hG1
              clear hM1 hG1
              rcases hud with hc | hc
              · have hbb : (((R[p]'hpR).toNat : Int) == 85) = true := by rw [hc]; rfl
                rw [show stepK k ((R[p]'hpR).toNat : Int) = 1 by rw [hc]; rfl] at HS
                cases G with
                | true =>
                  by_cases hpos : 0 < M + 1
                  · have hg1 : G1 = true := by rw [HOK.out, HS.out, decide_eq_true hpos]; rfl
                    subst hg1
                    clear HOK
                    go_wp2_with fail
                    go_roundw
                    case rel => exact ⟨p + 1, by omega, rfl, by rw [HM1.out, HS.out], by rw [HG1.out]⟩
                    case measure => rw [HP1.out, HP1.out]; omega
                  · have hg1 : G1 = false := by rw [HOK.out, HS.out, decide_eq_false hpos]; rfl
                    subst hg1
                    clear HOK
                    go_wp2_with fail
                    go_roundw
                    case rel => exact ⟨p + 1, by omega, rfl, by rw [HM1.out, HS.out], by rw [HG1.out]⟩
                    case measure => rw [HP1.out, HP1.out]; omega
                | false =>
                  have hg1 : G1 = false := by rw [HOK.out]; rfl
                  subst hg1
                  clear HOK
                  go_wp2_with fail
                  go_roundw
                  case rel => exact ⟨p + 1, by omega, rfl, by rw [HM1.out, HS.out], by rw [HG1.out]⟩
                  case measure => rw [HP1.out, HP1.out]; omega
              · have hbb : (((R[p]'hpR).toNat : Int) == 85) = false := by rw [hc]; rfl
                rw [show stepK k ((R[p]'hpR).toNat : Int) = -k by rw [hc]; rfl] at HS
                cases G with
                | true =>
                  by_cases hpos : 0 < M - k
                  · have hpos2 : k < M := by omega
                    have hg1 : G1 = true := by rw [HOK.out, HS.out, decide_eq_true (show 0 < M + -k by omega)]; rfl
                    subst hg1
                    clear HOK
                    go_wp2_with fail
                    go_roundw
                    case rel => exact ⟨p + 1, by omega, rfl, by rw [HM1.out, HS.out]; rfl, by rw [HG1.out]⟩
                    case measure => rw [HP1.out, HP1.out]; omega
                  · have hpos2 : ¬ k < M := by omega
                    have hg1 : G1 = false := by rw [HOK.out, HS.out, decide_eq_false (show ¬ 0 < M + -k by omega)]; rfl
                    subst hg1
                    clear HOK
                    go_wp2_with fail
                    go_roundw
                    case rel => exact ⟨p + 1, by omega, rfl, by rw [HM1.out, HS.out]; rfl, by rw [HG1.out]⟩
                    case measure => rw [HP1.out, HP1.out]; omega
                | false =>
                  have hg1 : G1 = false := by rw [HOK.out]; rfl
                  subst hg1
                  clear HOK
                  go_wp2_with fail
                  go_roundw
                  case rel => exact ⟨p + 1, by omega, rfl, by rw [HM1.out, HS.out]; rfl, by rw [HG1.out]⟩
                  case measure => rw [HP1.out, HP1.out]; omega
            · have hpe : p = s.size := by omega
              subst hpe
              have hnx : ∀ ty, (Instr.next (.pointer (some ⟨W.heap.size, 0, none⟩)) true ty).run Try.prog (W.drew.iter R s.size) = .ok (.tuple #[.bool false]) (W.drew.iter R s.size) := fun ty => run_next_end W.drew R s.size ty (by rw [HRS.out]; exact hpl)
              rw [HRG.out]
              have hrow := HROW.out
              have hs4 : w.heap.size + 1 ≤ (W.drew.iter R s.size).heap.size := by omega
              generalize W.drew.iter R s.size = X at *
              generalize mg R k s.size = M at *
              by_cases hg : rgB s k j = true
              · rw [if_pos hg] at HSU1
                rw [hg]
                go_wp2_with (at_builtin; refine wpList_pushG (.tmp 49) (.tmp 51) rfl rfl (w.heap.size + 1) _ (rgs s k j) rfl hrow (W.heap.size + 1) hWs.symm rfl (by omega) hs4 ?_; intro v3 w3 hr3 hg3 hat3)
                have HR3 := Lib.hid hr3
                rw [← HSU1.out] at HR3
                have HB3 := Lib.hid (HB.out.grown hg3 (by omega) (fun q hq => by have := (hrow.blk q hq).1; omega))
                have HIT3 := Lib.hid ((hg3.block w.heap.size (by omega) (fun e => by have := (hrow.blk _ e.symm).1; omega)).trans HIT.out)
                have hs5 : w.heap.size + 1 ≤ w3.heap.size := Nat.le_trans hs4 hg3.size
                have HPP : Hid (w3.iterPos w.heap.size = j + 1) := Lib.hid (by unfold World.iterPos; rw [HIT3.out])
                clear hr3 hg3 hat3 hrow
                go_roundw
                case rel => exact ⟨j + 1, by omega, HIT3.out, HR3.out, HB3.out, hs5⟩
                case measure => rw [HPP.out, HPOS.out]; omega
              · rw [if_neg hg] at HSU1
                rw [Bool.not_eq_true] at hg
                rw [hg]
                have HR3 := Lib.hid hrow
                rw [← HSU1.out] at HR3
                have HPP : Hid (X.iterPos w.heap.size = j + 1) := Lib.hid (by unfold World.iterPos; rw [HIT.out])
                clear hrow
                go_wp2_with fail
                go_roundw
                case rel => exact ⟨j + 1, by omega, HIT.out, HR3.out, HB.out, hs4⟩
                case measure => rw [HPP.out, HPOS.out]; omega
        · have hk2 : j = s.size := by omega
          subst hk2
          have hnx0 := fun ty => Lib.run_next_end_at (P := Try.prog) wr w.heap.size s s.size ty hit hlt
          go_wp2_with fail
          go_ret2
          exact ⟨_, rfl, hrow.mono (by omega), hb⟩
    · have HI : Hid (inB k 0 40 = false) := Lib.hid (inB_no hk)
      have e1 : raOk s k = false := by unfold raOk; rw [hp, Bool.true_and, Bool.and_eq_false_iff, decide_eq_false_iff_not, decide_eq_false_iff_not]; omega
      have e2 : raV s k = [] := by unfold raV; rw [e1]; rfl
      rw [e1, e2]
      rw [hp] at HP
      clear e1 e2 hp hk
      go_enter Try.func20, Try.ntmps20
      go_wp2_with (first | (go_at_call 46; refine (HP.out _).mono ?_; rintro e w' ⟨rfl, rfl⟩) | (go_at_call 47; refine (in_any _ _ _ _).mono ?_; rintro e w' ⟨rfl, rfl⟩; rw [HI.out]))
      go_ret2
      exact ⟨_, rfl, IRow.nil _ _, Below.refl _ _⟩
  · have e1 : raOk s k = false := by unfold raOk; rw [hp, Bool.false_and]
    have e2 : raV s k = [] := by unfold raV; rw [e1]; rfl
    rw [e1, e2]
    rw [hp] at HP
    clear e1 e2 hp
    go_enter Try.func20, Try.ntmps20
    go_wp2_with (go_at_call 46; refine (HP.out _).mono ?_; rintro e w' ⟨rfl, rfl⟩)
    go_ret2
    exact ⟨_, rfl, IRow.nil _ _, Below.refl _ _⟩
end Go.Proofs.Ytmfcknlpbliehab

/- The law on rotations: what it needs of lists. -/
namespace Go.Proofs.Ytmfcknlpbliehab
open Go.RowKit
set_option linter.unusedVariables false
theorem rot_back (xs : List Int) (b : Nat) (hb : b ≤ xs.length) : rot (rot xs b) (xs.length - b) = xs := by
  have hA : (xs.drop b).length = xs.length - b := List.length_drop
  show (xs.drop b ++ xs.take b).drop (xs.length - b) ++ (xs.drop b ++ xs.take b).take (xs.length - b) = xs
  rw [List.drop_left' hA, List.take_left' hA, List.take_append_drop]
theorem rot_zero (xs : List Int) : rot xs 0 = xs := by unfold rot; simp
theorem rot_facts {xs : List Int} (h : degB xs = true) {k : Nat} (hk : k < xs.length) : rotOk xs (k : Int) = true ∧ rotV xs (k : Int) = rot xs k := by
  have h1 : rotOk xs (k : Int) = true := by
    unfold rotOk inB
    rw [h, Bool.true_and, Bool.and_eq_true, decide_eq_true_iff, decide_eq_true_iff]
    omega
  refine ⟨h1, ?_⟩
  unfold rotV
  rw [if_pos h1, Int.toNat_natCast]
theorem rot_of {xs : List Int} {k : Int} (h : rotOk xs k = true) : ∃ b : Nat, k = (b : Int) ∧ b < xs.length ∧ degB xs = true := by
  unfold rotOk inB at h
  rw [Bool.and_eq_true, Bool.and_eq_true, decide_eq_true_iff, decide_eq_true_iff] at h
  obtain ⟨h1, h2, h3⟩ := h
  have := (degB_of h1).1
  exact ⟨k.toNat, by omega, by omega, h1⟩
theorem deg_sum {xs : List Int} (h : degB xs = true) : 0 ≤ xs.sum ∧ xs.sum ≤ 256 ∧ (∀ x ∈ xs, -1000000 ≤ x ∧ x ≤ 1000000) := by
  have h1 := sumT_bd h xs.length (Nat.le_refl _)
  have h2 := degB_of h
  unfold sumT at h1
  rw [List.take_length] at h1
  refine ⟨h1.1, by have := h1.2; omega, fun x hx => ?_⟩
  obtain ⟨i, hi, rfl⟩ := List.mem_iff_getElem.1 hx
  have := h2.2 i hi
  rw [List.getD_eq_getElem?_getD, List.getElem?_eq_getElem hi] at this
  have h3 : (some xs[i]).getD 0 = xs[i] := rfl
  rw [h3] at this
  omega
set_option maxRecDepth 100000 in
set_option maxHeartbeats 8000000 in
theorem wRots (a0 : Option Addr) (l0 c0 : Nat) (a1 : Option Addr) (l1 c1 : Nat) (w : World) (h0 : IsCode w a0 l0 c0) (h1 : IsCode w a1 l1 c1) :
    Calls Try.prog 3 #[.slice a0 l0 c0, .slice a1 l1 c1] w fun e w' => e = .returned (.bool true) ∧ Below w.heap.size w w' := by
  have HB := Lib.hid (bigAny a0 a1 l0 c0 l1 c1 w h0.2 h1.2)
  by_cases hbig : 1048576 < l0 + l1
  · rw [decide_eq_true hbig] at HB
    clear h0 h1
    go_enter Try.func3, Try.ntmps3
    go_wp2_with (go_at_call 5; refine HB.out.mono ?_; rintro e w' ⟨rfl, rfl⟩)
    go_ret
    exact ⟨rfl, Below.refl _ _⟩
  rw [decide_eq_false hbig] at HB
  have HD0 := Lib.hid (drawGood_any w a0 l0 c0 h0.1 (by omega))
  have HD1 : Hid (∀ W, Below w.heap.size w W → Calls Try.prog 18 #[.slice a1 l1 c1] W fun e w' => ∃ (s : ByteArray) (n : Int), e = .returned (.tuple #[.string s, .int .i64 n]) ∧ s.size ≤ 50 ∧ I64 n ∧ Below W.heap.size W w') := Lib.hid fun W hb => drawRatio_any W a1 l1 c1 (h1.1.below hb) (by omega)
  have HD2 : Hid (∀ W, Below w.heap.size w W → Calls Try.prog 21 #[.slice a1 l1 c1] W fun e w' => ∃ v xs, ∃ k : Int, e = .returned (.tuple #[v, .int .i64 k]) ∧ xs.length ≤ 40 ∧ (-100 ≤ k ∧ k ≤ 100) ∧ IRow w' W.heap.size v xs ∧ Below W.heap.size W w') := Lib.hid fun W hb => drawRot_any W a1 l1 c1 (h1.1.below hb) (by omega)
  clear h0 h1
  go_enter Try.func3, Try.ntmps3
  go_wp2_with (go_at_call 5; refine HB.out.mono ?_; rintro e w' ⟨rfl, rfl⟩)
  refine HD0.out.mono ?_
  rintro e w1 ⟨v, xs, rfl, hxl, hr1, hb1⟩
  have HB1 := Lib.hid hb1
  have HR1 := Lib.hid hr1
  have HXL : Hid (xs.length ≤ 1048576) := Lib.hid (by omega)
  clear hb1 hr1 HD0 HB
  go_wp2_with fail
  refine (goodRotations_ret v xs _ (RInts.of_row HR1.out) HXL.out).mono ?_
  rintro e w2 ⟨v2, rfl, hr2, hb2⟩
  have HB2 := Lib.hid (HB1.out.trans (hb2.mono HB1.out.size))
  have HR2 := Lib.hid (HR1.out.below hb2)
  have HG2 := Lib.hid hr2
  clear hr2 hb2
  go_wp2_with fail
  refine (specGoodRotations_ret v xs _ (RInts.of_row HR2.out) HXL.out).mono ?_
  rintro e w3 ⟨v3, rfl, hr3, hb3⟩
  have HB3 := Lib.hid (HB2.out.trans (hb3.mono HB2.out.size))
  have HR3 := Lib.hid (HR2.out.below hb3)
  have HG3 := Lib.hid (HG2.out.below hb3)
  have HS3 := Lib.hid hr3
  clear hr3 hb3 HR1 HR2 HG2 HB1 HB2
  go_wp2_with fail
  refine (excessOf_ret v xs _ (RInts.of_row HR3.out) HXL.out).mono ?_
  rintro e w4 ⟨rfl, hb4⟩
  have HB4 := Lib.hid (HB3.out.trans (hb4.mono HB3.out.size))
  have HR4 := Lib.hid (HR3.out.below hb4)
  have HG4 := Lib.hid (HG3.out.below hb4)
  have HS4 := Lib.hid (HS3.out.below hb4)
  clear hb4 HR3 HG3 HS3 HB3
  go_wp2_with fail
  refine (specExcessOf_ret v xs _ (RInts.of_row HR4.out) HXL.out).mono ?_
  rintro e w5 ⟨rfl, hb5⟩
  have HB5 := Lib.hid (HB4.out.trans (hb5.mono HB4.out.size))
  have HR5 := Lib.hid (HR4.out.below hb5)
  have HG5 := Lib.hid (HG4.out.below hb5)
  have HS5 := Lib.hid (HS4.out.below hb5)
  have HGL : Hid ((goodV xs).length ≤ 1099511627776) := Lib.hid (by have := goodV_len xs HXL.out; omega)
  clear hb5 HR4 HG4 HS4 HB4
  go_wp2_with fail
  refine (xSame_same v2 v3 (goodV xs) _ _ _ HG5.out HS5.out HGL.out).mono ?_
  rintro e w6 ⟨rfl, n6, rfl⟩
  go_wp2_with fail
  refine (isDegrees_any v xs _ (RInts.of_row (HR5.out.drewN n6)) HXL.out).mono ?_
  rintro e w7 ⟨rfl, rfl⟩
  go_wp2_with fail
  refine (isDegrees_any v xs _ (RInts.of_row (HR5.out.drewN n6)) HXL.out).mono ?_
  rintro e w7 ⟨rfl, rfl⟩
  go_wp2_with fail
  refine (specIsDegrees_ret v xs _ (RInts.of_row (HR5.out.drewN n6)) HXL.out).mono ?_
  rintro e w8 ⟨rfl, hb8⟩
  have HB8 := Lib.hid ((below_drewN HB5.out n6).trans (hb8.mono HB5.out.size))
  have HR8 := Lib.hid ((HR5.out.drewN n6).below hb8)
  have HG8 := Lib.hid ((HG5.out.drewN n6).below hb8)
  clear hb8 HR5 HG5 HS5 HB5
  go_upto_if 99 with fail
  have HOK : Hid (degB xs = true → excV xs = exc xs) := Lib.hid fun hd => by unfold excV; rw [if_pos hd]
  have HDG := Lib.hid (Eq.refl (degB xs))
  generalize excV xs = E at *
  generalize hok : degB xs = ok at HDG HOK ⊢
  have HOKE := Lib.hid hok
  clear hok
  go_cut [4] from 14 to 145 (fun s wx => s = .bool false ∧ Below w.heap.size w wx)
  case first =>
    cases ok with
    | false =>
      go_wp2_with fail
      go_meet
      exact ⟨rfl, HB8.out⟩
    | true =>
    have hd : degB xs = true := HOKE.out
    have hev := HOK.out rfl
    have hgv : goodV xs = goods xs xs.length := by unfold goodV; rw [if_pos hd]
    have hmany := goods_many hd
    have hsum := deg_sum hd
    have hes := exc_sum xs
    have hl16 := (degB_of hd).1
    clear HDG
    have HDG : Hid (degB xs = true) := Lib.hid hd
    have HSUM : Hid (∀ (W : World) (B : Nat), IRow W B v xs → Calls Try.prog 14 #[v] W fun e w' => e = .returned (.int .i64 xs.sum) ∧ W = w') := Lib.hid fun W B h => xSum_any v xs B W h (by omega) hsum.2.2
    have hs1 := hsum.1
    have hs2 := hsum.2.1
    rw [hgv] at HG8
    have HGM := Lib.hid fun k => goods_mem xs k xs.length
    have hgl := goods_length xs xs.length
    rw [← hev] at hmany hes
    clear hd hev hgv hsum HOK HOKE
    obtain ⟨A9, c9, rfl⟩ := HR8.out.shape
    obtain ⟨AG, cG, rfl⟩ := HG8.out.shape
    generalize xs.sum = S at *
    generalize hn : xs.length = n at *
    generalize hG : goods xs n = G at *
    generalize hL : G.length = L at *
    have HN := Lib.hid hn
    have HLL := Lib.hid hL
    clear hn hG hL
    have hes1 : (n : Int) - S = E := by omega
    have HMN := Lib.hid hmany
    clear hes hmany
    go_upto_if 102 with fail
    go_cut [14] from 15 to 102 (fun s wx => s = .int .i64 ((L : Nat) : Int) ∧ w8 = wx)
    case first =>
      by_cases hE : E < 0
      · have hmany := HMN.out
        rw [if_pos hE] at hmany
        have HMN2 := Lib.hid hmany
        clear hmany
        go_wp2_with fail
        go_meet
        exact ⟨by rw [HMN2.out], rfl⟩
      · have hmany := HMN.out
        rw [if_neg hE] at hmany
        have HMN2 := Lib.hid hmany
        clear hmany
        have hE' : decide (E < 0) = false := decide_eq_false hE
        go_wp2_with fail
        go_meet
        exact ⟨by rw [HMN2.out], rfl⟩
    case rest =>
    obtain ⟨rfl, rfl⟩ := hcut
    clear HMN
    have hx1 : ((L : Int) == (L : Int)) = true := by simp
    have hx2 : (E == (n : Int) - S) = true := by rw [hes1]; simp
    have hx3 : (E != (n : Int) - S) = false := by rw [hes1]; simp
    have HES := Lib.hid hes1
    clear hes1
    go_wp2_with (go_at_call 14; refine (HSUM.out _ _ HR8.out).mono ?_; rintro e w9 ⟨rfl, rfl⟩)
    clear hx1 hx2 hx3
    go_loopw [4, 118] (fun sv kv wr => ∃ k : Nat, k ≤ n ∧ sv = .bool false ∧ kv = .int .i64 (k : Int) ∧ Below w8.heap.size w8 wr) (fun _ kv _ => n - (intOf kv).toNat)
    case atStart => exact ⟨0, Nat.zero_le _, rfl, rfl, Below.refl _ _⟩
    case round =>
      obtain ⟨k, hk, rfl, rfl, hbr⟩ := hrel
      have HRR := Lib.hid (HR8.out.below hbr)
      have HGR := Lib.hid (HG8.out.below hbr)
      have HBR := Lib.hid (HB8.out.trans (hbr.mono HB8.out.size))
      have HBW := Lib.hid hbr
      clear hbr
      by_cases hlt : k < n
      · have hf := rot_facts HDG.out (k := k) (by rw [HN.out]; exact hlt)
        have HROT : Hid (∀ W, RInts W (.slice A9 n c9) xs → Calls Try.prog 15 #[.slice A9 n c9, .int .i64 (k : Int)] W (IntsRet W true (rot xs k))) := Lib.hid fun W h => by
          have := rotateList_ret (.slice A9 n c9) xs (k : Int) W h (by rw [HN.out]; exact HXL.out)
          rwa [hf.1, hf.2] at this
        have HRL : Hid ((rot xs k).length ≤ 1048576) := Lib.hid (by rw [rot_length xs k (by rw [HN.out]; exact hk), HN.out]; exact HXL.out)
        have hdr := degB_rot HDG.out (k := k) (by rw [HN.out]; exact hk)
        have HFOR : Hid (∀ W u, RInts W u (rot xs k) → Calls Try.prog 16 #[u] W (Ret W (.tuple #[.bool (forB (rot xs k)), .bool true]))) := Lib.hid fun W u h => by
          have := isForest_ret u (rot xs k) W h HRL.out
          unfold forV at this
          rwa [hdr, Bool.true_and] at this
        have HHAS : Hid (∀ W, IRow W w1.heap.size (.slice AG L cG) G → Calls Try.prog 17 #[.slice AG L cG, .int .i64 (k : Int)] W fun e w' => e = .returned (.bool (forB (rot xs k))) ∧ W = w') := Lib.hid fun W h => by
          have h2 := xHas_any (.slice AG L cG) G (k : Int) _ W h (by rw [HLL.out]; omega)
          have h3 : decide ((k : Int) ∈ G) = forB (rot xs k) := by
            rw [Bool.eq_iff_iff, decide_eq_true_iff, HGM.out k]
            exact ⟨fun h => h.2, fun h => ⟨hlt, h⟩⟩
          rwa [h3] at h2
        clear hf hdr
        generalize forB (rot xs k) = fb at *
        go_wp2_with (first
          | (go_at_call 15; refine (HROT.out _ (RInts.of_row HRR.out)).mono ?_; rintro e wA ⟨u, rfl, hu, hbA⟩; have HU := Lib.hid hu; have HGA := Lib.hid (HGR.out.below hbA); have HBA := Lib.hid (HBW.out.trans (hbA.mono HBW.out.size)); clear hu hbA)
          | (go_at_call 16; refine (HFOR.out _ _ (RInts.of_row HU.out)).mono ?_; rintro e wB ⟨rfl, hbB⟩; have HGB := Lib.hid (HGA.out.below hbB); have HBB := Lib.hid (HBA.out.trans (hbB.mono HBA.out.size)); clear hbB)
          | (go_at_call 17; refine (HHAS.out _ HGB.out).mono ?_; rintro e wC ⟨rfl, rfl⟩))
        go_roundw
        case rel => exact ⟨k + 1, by omega, rfl, by go_num, HBB.out⟩
        case measure => simp [intOf]; omega
      · obtain rfl : k = n := by omega
        go_wp2_with fail
        go_meet
        exact ⟨rfl, HBR.out⟩
  case rest =>
  obtain ⟨rfl, hbc⟩ := hcut
  have HBC := Lib.hid hbc
  clear hbc HR8 HG8 HB8
  go_wp2_with fail
  refine (HD1.out _ HBC.out).mono ?_
  rintro e wd ⟨s, k, rfl, hs50, hk64, hbd⟩
  have HBD := Lib.hid (HBC.out.trans (hbd.mono HBC.out.size))
  have hkk1 := hk64.1
  have hkk2 := hk64.2
  clear hbd HBC hk64
  have hsm : s.size ≤ maxLen := by unfold maxLen; omega
  have HRA := Lib.hid fun W => ratioRot_ret s k W hsm
  have HRS := Lib.hid fun W => specRatio_ret s k W hsm
  clear hsm
  go_wp2_with fail
  refine (HRA.out _).mono ?_
  rintro e we ⟨v4, rfl, hr4, hbe⟩
  have HBE := Lib.hid (HBD.out.trans (hbe.mono HBD.out.size))
  have HV4 := Lib.hid hr4
  clear hbe hr4 HBD
  go_wp2_with fail
  refine (HRS.out _).mono ?_
  rintro e wf ⟨v5, rfl, hr5, hbf⟩
  have HBF := Lib.hid (HBE.out.trans (hbf.mono HBE.out.size))
  have HV4f := Lib.hid (HV4.out.below hbf)
  have HV5f := Lib.hid hr5
  clear hbf hr5 HBE HV4 HRA HRS
  go_wp2_with fail
  refine (HD2.out _ HBF.out).mono ?_
  rintro e wg ⟨vA, ys, b, rfl, hal, hbb, hra, hbg⟩
  have HBG := Lib.hid (HBF.out.trans (hbg.mono HBF.out.size))
  have HV4g := Lib.hid (HV4f.out.below hbg)
  have HV5g := Lib.hid (HV5f.out.below hbg)
  have HAg := Lib.hid hra
  have HAL : Hid (ys.length ≤ 1048576) := Lib.hid (by omega)
  clear hbg hra HBF HV4f HV5f HD1 HD2
  go_wp2_with fail
  refine (rotateList_ret vA ys b _ (RInts.of_row HAg.out) HAL.out).mono ?_
  rintro e wh ⟨vB, rfl, hrB, hbh⟩
  have HBH := Lib.hid (HBG.out.trans (hbh.mono HBG.out.size))
  have HV4h := Lib.hid (HV4g.out.below hbh)
  have HV5h := Lib.hid (HV5g.out.below hbh)
  have HAh := Lib.hid (HAg.out.below hbh)
  have HRBh := Lib.hid hrB
  clear hbh hrB HBG HV4g HV5g HAg
  go_wp2_with fail
  refine (specRotateList_ret vA ys b _ (RInts.of_row HAh.out) HAL.out).mono ?_
  rintro e wi ⟨vC, rfl, hrC, hbi⟩
  have HBI := Lib.hid (HBH.out.trans (hbi.mono HBH.out.size))
  have HV4i := Lib.hid (HV4h.out.below hbi)
  have HV5i := Lib.hid (HV5h.out.below hbi)
  have HAi := Lib.hid (HAh.out.below hbi)
  have HRBi := Lib.hid (HRBh.out.below hbi)
  have HRCi := Lib.hid hrC
  have HLR : Hid ((raV s k).length ≤ 1099511627776) := Lib.hid (by have := raV_len s k; omega)
  have HLB : Hid ((rotV ys b).length ≤ 1099511627776) := Lib.hid (by have := rotV_len ys b HAL.out; omega)
  clear hbi hrC HBH HV4h HV5h HAh HRBh
  go_wp2_with fail
  refine (xSame_same v4 v5 (raV s k) _ _ _ HV4i.out HV5i.out HLR.out).mono ?_
  rintro e wj ⟨rfl, nj, rfl⟩
  go_wp2_with fail
  refine (xSame_same vB vC (rotV ys b) _ _ _ (HRBi.out.drewN nj) (HRCi.out.drewN nj) HLB.out).mono ?_
  rintro e wk ⟨rfl, nk, rfl⟩
  have HBK : Hid (Below w.heap.size w ((wi.drewN nj).drewN nk)) := Lib.hid (below_drewN (below_drewN HBI.out nj) nk)
  have HV4k : Hid (IRow ((wi.drewN nj).drewN nk) _ v4 (raV s k)) := Lib.hid ((HV4i.out.drewN nj).drewN nk)
  have HAk : Hid (IRow ((wi.drewN nj).drewN nk) _ vA ys) := Lib.hid ((HAi.out.drewN nj).drewN nk)
  have HRBk : Hid (IRow ((wi.drewN nj).drewN nk) _ vB (rotV ys b)) := Lib.hid ((HRBi.out.drewN nj).drewN nk)
  clear HBI HV4i HV5i HAi HRBi HRCi
  generalize (wi.drewN nj).drewN nk = W9 at *
  go_upto_if 200 with fail
  have HRK : Hid (raOk s k = true → (s.size ≤ 40 ∧ (0 ≤ k ∧ k ≤ 40) ∧ ∀ j (h : j < s.size), isUD s[j] = true) ∧ raV s k = rgs s k s.size) := Lib.hid fun h => by
    refine ⟨?_, by unfold raV; rw [if_pos h]⟩
    unfold raOk at h
    rw [Bool.and_eq_true, Bool.and_eq_true, decide_eq_true_iff, decide_eq_true_iff] at h
    have hp := (pathB_iff s).1 h.1
    exact ⟨hp.1, h.2, hp.2⟩
  have HRO : Hid (rotOk ys b = true → ∃ B : Nat, b = (B : Int) ∧ B < ys.length ∧ degB ys = true) := Lib.hid fun h => rot_of h
  have HRV : Hid (rotOk ys b = true → rotV ys b = rot ys b.toNat) := Lib.hid fun h => by unfold rotV; rw [if_pos h]
  generalize raOk s k = ok2 at *
  generalize rotOk ys b = ok3 at *
  go_cut [4] from 32 to 238 (fun s wx => s = .bool false ∧ Below W9.heap.size W9 wx)
  case first =>
    cases ok2 with
    | false =>
      go_wp2_with fail
      go_meet
      exact ⟨rfl, Below.refl _ _⟩
    | true =>
    obtain ⟨⟨hs40, ⟨hk0, hk40⟩, hud⟩, hrv⟩ := HRK.out rfl
    have HCU : Hid (∀ W, Calls Try.prog 23 #[.string s, .int .u8 85] W fun e w' => e = .returned (.int .i64 ((cntC s 85 s.size : Nat) : Int)) ∧ W = w') := Lib.hid fun W => xCount_any s 85 W (by omega) (by omega)
    have HCD : Hid (∀ W, Calls Try.prog 23 #[.string s, .int .u8 68] W fun e w' => e = .returned (.int .i64 ((cntC s 68 s.size : Nat) : Int)) ∧ W = w') := Lib.hid fun W => xCount_any s 68 W (by omega) (by omega)
    have hu := cntC_le s 85 s.size
    have hdn := cntC_le s 68 s.size
    have hmany := rgs_many s k hk0
    rw [mg_cnt s k hud s.size (Nat.le_refl _)] at hmany
    have HAT : Hid (∀ j, j < (rgs s k s.size).length → ∃ i : Nat, (rgs s k s.size).getD j 0 = (i : Int) ∧ (∃ h : i < s.size, s[i].toNat = 85) ∧ (∀ j', j' < j → (rgs s k s.size).getD j' 0 < (i : Int))) := Lib.hid fun j hj => by
      obtain ⟨i, h1, h2, h3, h4⟩ := rgs_at s k s.size j hj
      refine ⟨i, h1, ⟨h2, ?_⟩, h4⟩
      have h5 := rgs_up s k hk0 i h2 h3
      unfold stepK at h5
      split at h5
      · next e => omega
      · omega
    have hkd : 0 ≤ k * ((cntC s 68 s.size : Nat) : Int) ∧ k * ((cntC s 68 s.size : Nat) : Int) ≤ 1600 := by
      obtain ⟨K, rfl⟩ : ∃ K : Nat, k = (K : Int) := ⟨k.toNat, by omega⟩
      have := Nat.mul_le_mul (show K ≤ 40 by omega) (show cntC s 68 s.size ≤ 40 by omega)
      rw [← Int.natCast_mul]
      omega
    rw [hrv] at HV4k
    have hl40 : (rgs s k s.size).length ≤ 40 := Nat.le_trans (rgs_length s k s.size) hs40
    clear HRK hrv hud
    obtain ⟨A4, c4, rfl⟩ := HV4k.out.shape
    generalize cntC s 85 s.size = U at *
    generalize cntC s 68 s.size = D at *
    generalize hG : rgs s k s.size = G at *
    generalize hL : G.length = L at *
    have HLL := Lib.hid hL
    have HMN := Lib.hid hmany
    clear hG hL hmany
    go_wp2_with fail
    refine (HCU.out _).mono ?_
    rintro e wx ⟨rfl, rfl⟩
    go_wp2_with fail
    refine (HCD.out _).mono ?_
    rintro e wx ⟨rfl, rfl⟩
    go_upto_if 209 with fail
    go_cut [32] from 33 to 209 (fun s wx => s = .int .i64 ((L : Nat) : Int) ∧ W9 = wx)
    case first =>
      by_cases hE : (U : Int) - k * (D : Int) < 0
      · have hmany := HMN.out
        rw [if_pos hE] at hmany
        have HMN2 := Lib.hid hmany
        clear hmany
        go_wp2_with fail
        go_meet
        exact ⟨by rw [HMN2.out], rfl⟩
      · have hmany := HMN.out
        rw [if_neg hE] at hmany
        have HMN2 := Lib.hid hmany
        have hE' : decide ((U : Int) - k * (D : Int) < 0) = false := decide_eq_false hE
        clear hmany
        go_wp2_with fail
        go_meet
        exact ⟨by rw [HMN2.out], rfl⟩
    case rest =>
    obtain ⟨rfl, rfl⟩ := hcut
    clear HMN hkd
    have hx1 : ((L : Int) == (L : Int)) = true := by simp
    go_wp2_with fail
    clear hx1
    go_loopw [4, 216] (fun sv kv wr => ∃ j : Nat, j ≤ L ∧ sv = .bool false ∧ kv = .int .i64 (j : Int) ∧ Below W9.heap.size W9 wr) (fun _ kv _ => L - (intOf kv).toNat)
    case atStart => exact ⟨0, Nat.zero_le _, rfl, rfl, Below.refl _ _⟩
    case round =>
      obtain ⟨j, hj, rfl, rfl, hbr⟩ := hrel
      have HVR := Lib.hid (HV4k.out.below hbr)
      have HBW := Lib.hid hbr
      clear hbr
      by_cases hlt : j < L
      · obtain ⟨i, hi, ⟨his, hib⟩, hi2⟩ := HAT.out j hlt
        obtain ⟨g9, c9, hv, _, _⟩ := HVR.out.form' HLL.out (by omega)
        have hA : A4 = some ⟨g9, 0, none⟩ := by injection hv
        subst hA
        clear hv
        have e1 := HVR.out.cell (j := j) (by rw [HLL.out]; exact hlt)
        rw [hi] at e1
        have his2 : (i : Int) < (s.size : Int) := by omega
        by_cases hj0 : j = 0
        · subst hj0
          clear hi hi2
          go_wp2_with fail
          go_roundw
          case rel => exact ⟨0 + 1, by omega, rfl, by go_num, HBW.out⟩
          case measure => simp [intOf]; omega
        · obtain ⟨j1, rfl⟩ : ∃ j1, j = j1 + 1 := ⟨j - 1, by omega⟩
          have e2 := HVR.out.cell (j := j1) (by rw [HLL.out]; omega)
          have h3 := hi2 j1 (by omega)
          generalize G.getD j1 0 = z at *
          have h4 : decide (z ≥ (i : Int)) = false := decide_eq_false (by omega)
          have h5 : decide ((i : Int) ≤ z) = false := decide_eq_false (by omega)
          have h6 : (0 : Int) < ((j1 + 1 : Nat) : Int) := by omega
          have h7 : j1 < L := by omega
          have h8 : (j1 : Int) < (L : Int) := by omega
          clear hi hi2 h3
          go_wp2_with fail
          go_roundw
          case rel => exact ⟨j1 + 1 + 1, by omega, rfl, by go_num, HBW.out⟩
          case measure => simp [intOf]; omega
      · obtain rfl : j = L := by omega
        go_wp2_with fail
        go_meet
        exact ⟨rfl, HBW.out⟩
  case rest =>
  obtain ⟨rfl, hbc⟩ := hcut
  have HBC := Lib.hid (HBK.out.trans (hbc.mono HBK.out.size))
  have HAc := Lib.hid (HAk.out.below hbc)
  have HRBc := Lib.hid (HRBk.out.below hbc)
  clear hbc HBK HAk HRBk HV4k HRK
  cases ok3 with
  | false =>
    go_wp2_with fail
    go_ret
    exact ⟨rfl, HBC.out⟩
  | true =>
    obtain ⟨B, rfl, hBl, hdg⟩ := HRO.out rfl
    have hrv := HRV.out rfl
    rw [Int.toNat_natCast] at hrv
    have hrl := rot_length ys B (by omega)
    have hdr := degB_rot hdg (k := B) (by omega)
    obtain ⟨q, hq, hql⟩ : ∃ q : Nat, ((ys.length : Int) - (B : Int)).tmod (ys.length : Int) = (q : Int) ∧ q < ys.length ∧ rot (rot ys B) q = ys := by
      by_cases hB0 : B = 0
      · subst hB0
        refine ⟨0, ?_, by omega, by rw [rot_zero, rot_zero]⟩
        rw [show (ys.length : Int) - ((0 : Nat) : Int) = (ys.length : Int) by omega]
        exact Int.tmod_self
      · refine ⟨ys.length - B, ?_, by omega, rot_back ys B (by omega)⟩
        rw [show (ys.length : Int) - (B : Int) = ((ys.length - B : Nat) : Int) by omega]
        exact Int.tmod_eq_of_lt (by omega) (by omega)
    have hf := rot_facts hdr (k := q) (by rw [hrl]; exact hql.1)
    rw [hql.2] at hf
    have HROT : Hid (∀ W u, RInts W u (rot ys B) → Calls Try.prog 15 #[u, .int .i64 (q : Int)] W (IntsRet W true ys)) := Lib.hid fun W u h => by
      have := rotateList_ret u (rot ys B) (q : Int) W h (by rw [hrl]; exact HAL.out)
      rwa [hf.1, hf.2] at this
    have hlb := hql.1
    rw [hrv] at HRBc
    clear hf hdr hdg hrv hrl hql HRO HRV
    have HLA : Hid (ys.length ≤ 1099511627776) := Lib.hid (by have := HAL.out; omega)
    obtain ⟨A9, c9, rfl⟩ := HAc.out.shape
    generalize hn : ys.length = n at *
    have hq2 : IntKind.i64.wrap (((n : Int) - (B : Int)).tmod (n : Int)) = (q : Int) := by rw [hq]; exact IntWalk.i64_in _ (by omega)
    have hn0 : ((n : Int) == 0) = false := by simp; omega
    go_wp2_with (first
      | (go_at_call 15; refine (HROT.out _ _ (RInts.of_row HRBc.out)).mono ?_; rintro e wl ⟨vD, rfl, hrD, hbl⟩; have HBL := Lib.hid (HBC.out.trans (hbl.mono HBC.out.size)); have HAl := Lib.hid (HAc.out.below hbl); have HDl := Lib.hid hrD; clear hbl hrD)
      | (go_at_call 11; refine (xSame_same _ _ ys _ _ _ HDl.out HAl.out (by rw [hn]; exact HLA.out)).mono ?_; rintro e wm ⟨rfl, nm, rfl⟩))
    go_ret
    exact ⟨rfl, below_drewN HBL.out nm⟩
end Go.Proofs.Ytmfcknlpbliehab
