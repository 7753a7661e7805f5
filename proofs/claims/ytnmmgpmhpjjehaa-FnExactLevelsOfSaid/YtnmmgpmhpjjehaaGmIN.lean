/- moveTo and momentsBy of the program, with one function value handed over. -/
import Derived.Test.YtnmmgpmhpjjehaaGmBase
import Derived.Test.YtnmmgpmhpjjehaaOwn
import Derived.Laws.EntriesVeiled
namespace Go.Proofs.Ytnmmgpmhpjjehaa
open Go.RowKit Go.Maps
set_option linter.unusedVariables false
abbrev cloN  : Value := .func (.func 83) #[] #[]
def AnsN (u f d : Nat → Int) (j h : Nat) (w : World) (e : Ending) (w' : World) : Prop := ∃ x ok, e = .returned (.tuple #[.int .i64 x, .bool ok]) ∧ (ok = true → x = wtJ u f d j h) ∧ (ok = false → wtJ u f d j h = 0) ∧ Below w.heap.size w w'
set_option maxRecDepth 100000 in
set_option maxHeartbeats 4000000 in
theorem moveToN (u f d : Nat → Int) (hw : W9 u f d) (k : Nat) (hk : k ≤ 11)  (b b2 n : Nat) (D0 D20 : DataW Unit) (w : World) (hne : b ≠ b2) (hb : OM w b n D0) (hb2 : OM w b2 n D20) (hn : n ≤ 20000000)
    (hm : MapIs D0 k (gm u f d k)) (h0 : ∀ z, Maps.has D20 z = false)
    (HW : Hid (∀ (j h : Nat) (wq : World), j < 3 → h ≤ 11 → 1 ≤ h + j → TwoM b b2 w wq → Calls Try.prog 83 #[.int .u8 ((akC j).toNat : Int), .int .i64 (h : Int)] wq (AnsN u f d j h wq))) :
    Calls Try.prog 108 #[.map (some b), .map (some b2), cloN ] w fun e w' => e = .returned (.tuple #[]) ∧ TwoM b b2 w w' ∧ (∃ D', OM w' b n D' ∧ ∀ z, Maps.has D' z = false) ∧ ∃ D'', OM w' b2 (4 * n) D'' ∧ MapIs D'' (k + 1) (gm u f d (k + 1)) := by
  have hbl := hb.lt
  have hbl2 := hb2.lt
  have hsz := hb.size_le
  have HMS := Lib.hid (MvL.start hm h0)
  have HB2 := Lib.hid hb2
  clear hm h0 hb2
  go_enter Try.func108, Try.ntmps108
  go_wp2_with (first | (at_range; refine wpList_range_own _ rfl _ 98 rfl 3 3 gmLaw Try.underlying98 _ b n _ rfl hb ?_; intro w0 hrg0 hg0 hs0) | go_in)
  go_frame
  go_loopw [6] (fun _ wr => ∃ (left : Lit → Bool) (cnt : Nat) (D D2 : DataW Unit), RG wr b w.heap.size n D left cnt ∧ cnt ≤ n ∧ OM wr b2 (n + 3 * (n - cnt)) D2 ∧ Hid (MvL u f d k left D D2) ∧ TwoM b b2 w wr) (fun _ wr => wr.rangeLeft b w.heap.size)
  case atStart => exact ⟨_, _, D0, D20, hrg0, hsz, (HB2.out.kept hg0 (by simp)).mono (by omega), HMS, (TwoM.refl _ _ _).grown hg0 (by simp)⟩
  case round =>
    obtain ⟨left, cnt, D, D2, hrg, hcs, ho2, HMV, htw⟩ := hrel
    clear hrg0 hg0 hs0 HMS HB2 hb
    go_wp2_with (first | (at_next; refine wpList_next_ranges_ii _ rfl _ rfl 3 3 .i64 .i64 gmLaw Try.underlying3 Try.underlying3 b w.heap.size n _ _ _ rfl hrg ?_ ?_) | go_in)
    · intro hc0 hl0
      have HD := Lib.hid (HMV.out.done hl0)
      go_wp2
      go_end0
      exact ⟨rfl, htw, ⟨D, hrg.owns, HD.out.1⟩, ⟨D2, ho2.mono (by omega), HD.out.2⟩⟩
    · intro x c w1 cnt1 hwx hwc hlx hat hrg1 hlt hg1 hs1 hen
      obtain ⟨h, hhk, hxe⟩ := HMV.out.lk _ hlx
      obtain rfl : x = (h : Int) := by injection hxe
      have HC : Hid (c = gm u f d k h) := Lib.hid (at0_inj (HMV.out.rd h hlx) (hat _))
      have hcb : -5559060566555523 ≤ c ∧ c ≤ 5559060566555523 := by rw [HC.out]; exact gm_small hw hk h
      have HLX : Hid (leftN left h = true) := Lib.hid hlx
      have ho2' := ho2.kept hg1 (by simp; omega)
      have htw' := htw.grown hg1 (fun j hj => by cases hj; exact .inr (.inr (Nat.le_refl _)))
      have HM0 : Hid (MapIs D2 (k + 1) (stg u f d k (leftN left) h 0)) := Lib.hid HMV.out.two
      have HRG := Lib.hid hrg
      have HO2 := Lib.hid ho2'
      have HT1 := Lib.hid htw'
      have HR1 := Lib.hid hrg1
      clear hat hlx hxe ho2 ho2' htw htw' hrg hrg1 hg1 hs1
      obtain ⟨w0, rfl⟩ : ∃ w0, w0 = wr := ⟨_, rfl⟩
      go_wp2_with fail
      go_loopw [19] (fun i wz => ∃ (j : Nat) (D3 : DataW Unit), j ≤ 3 ∧ i = .int .i64 (j : Int) ∧ RG wz b w.heap.size n D (fun z => left z && !z.sameKey (.int .i64 (h : Int))) cnt1 ∧ OM wz b2 (n + 3 * (n - cnt) + j) D3 ∧ Hid (MapIs D3 (k + 1) (stg u f d k (leftN left) h j)) ∧ TwoM b b2 w wz) (fun i _ => 3 - (intOf i).toNat)
      case atStart => exact ⟨0, D2, by omega, rfl, HR1.out, HO2.out, HM0, HT1.out⟩
      case round =>
        obtain ⟨j, D3, hj, rfl, hrz, ho3, HM3, htz⟩ := hrel
        clear HR1 HO2 HM0 HT1 hen
        by_cases hlj : j < 3
        · have hj3 : j = 0 ∨ j = 1 ∨ j = 2 := by omega
          rcases hj3 with rfl | rfl | rfl
          · obtain ⟨r, hr⟩ : ∃ r : Int, r = 0 - 1 := ⟨_, rfl⟩
            have HR : Hid (∀ w, Calls Try.prog 76 #[.int .u8 68] w fun e w' => e = .returned (.int .i64 r) ∧ w = w') := Lib.hid fun w => by rw [hr]; exact rise_any 68 w
            by_cases hh0 : h ≤ 0
            · have hneg : (h : Int) + r < 0 := by omega
              have hrb : -1 ≤ r ∧ r ≤ 1 := by omega
              have HO3 := Lib.hid ho3
              have HRZ := Lib.hid hrz
              have HTZ := Lib.hid htz
              clear hr ho3 hrz htz
              go_wp2_with (go_at_call 76; refine (HR.out _).mono ?_; rintro e w' ⟨rfl, rfl⟩)
              go_roundw
              case rel => exact ⟨1, D3, by omega, by go_num, HRZ.out, HO3.out.mono (by omega), Lib.hid (map_stay HLX.out (by omega) (.inl (by omega)) HM3.out), HTZ.out⟩
              case measure => simp [intOf]
            · have hh1 : 1 ≤ h := by omega
              obtain ⟨q, hq⟩ : ∃ q, h + 0 = q + 1 := ⟨h + 0 - 1, by omega⟩
              have HQ : Hid ((h : Int) + r = (q : Int)) := Lib.hid (by omega)
              have hnn : 0 ≤ (h : Int) + r := by omega
              have hrb : -1 ≤ r ∧ r ≤ 1 := by omega
              have HQQ := Lib.hid hq
              clear hr
              have HWJ : Hid (Calls Try.prog 83 #[.int .u8 68, .int .i64 (h : Int)] wr (AnsN u f d 0 h wr)) := Lib.hid (HW.out 0 h _ (by omega) (by omega) (by omega) htz)
              have hkw : (Lit.int .i64 ((h : Int) + r)).wf = true := WalkArith.wf_i64 (by omega)
              have HG : Hid (At0 D3 ((h : Int) + r) (stg u f d k (leftN left) h 0 q)) := Lib.hid (by rw [HQ.out]; exact HM3.out.val q)
              have hgb := stg_bd hw hk (leftN left) h 0 q
              have HXB := Lib.hid (wtJ_bd hw 0 h)
              have HO3 := Lib.hid ho3
              have HRZ := Lib.hid hrz
              have HTZ := Lib.hid htz
              clear ho3 hrz htz hq
              obtain ⟨G, hG⟩ : ∃ G, G = stg u f d k (leftN left) h 0 q := ⟨_, rfl⟩
              rw [← hG] at hgb HG
              have HGE := Lib.hid hG
              clear hG
              go_wp2_with (go_at_call 76; refine (HR.out _).mono ?_; rintro e w' ⟨rfl, rfl⟩)
              go_at_call 83
              refine HWJ.out.mono ?_
              rintro e w2 ⟨x, ok, rfl, hok1, hok2, hbw⟩
              have hgw := grown_ofB hbw
              have HO4 := Lib.hid (HO3.out.kept hgw (by simp))
              have HRZ4 := Lib.hid (HRZ.out.kept hgw (by simp) (by simp))
              have HTZ4 := Lib.hid (HTZ.out.grown hgw (by simp))
              cases ok with
              | false =>
                have HST := Lib.hid (map_stay HLX.out (by omega) (.inr (hok2 rfl)) HM3.out)
                clear hok1 hok2 hbw hgw
                go_wp2_with fail
                go_roundw
                case rel => exact ⟨1, D3, by omega, by go_num, HRZ4.out, HO4.out.mono (by omega), HST, HTZ4.out⟩
                case measure => simp [intOf]
              | true =>
                have hxe := hok1 rfl
                have HXE := Lib.hid hxe
                have hxb := HXB.out
                rw [← hxe] at hxb
                have hmb := mul_abs (A := 5559060566555523) (B := 9) hcb hxb
                have ho4 := HO4.out
                clear hok1 hok2 hbw hgw hxe
                go_wp2_with (first
                  | (at_lookup; refine wpList_lookup_own_int _ rfl _ _ 98 rfl 3 3 .i64 gmLaw Try.underlying98 Try.underlying3 (gmZero _) b2 _ D3 rfl ho4 _ _ rfl (keyOf_int_mk Try.underlying3 hkw) ?_; intro y hat2 hwy; obtain rfl := at0_inj HG.out hat2; clear hat2 hwy)
                  | (at_mapUpdate; refine wpList_mapUpdate_own _ rfl _ _ _ 98 rfl 3 3 gmLaw Try.underlying98 _ b2 _ D3 rfl ho4 (by unfold maxLen; omega) _ _ _ rfl rfl (keyOf_int_mk Try.underlying3 hkw) _ [] (plainElem_int Try.underlying3 (WalkArith.wf_i64 (by omega))) ?_; intro w5 hown5 hg5; go_frame)
                  | go_in)
                have HST := Lib.hid (map_step HLX.out (by omega) HQQ.out ho4.isMap HM3.out (by have := HQQ.out; omega) (x := y + c * x) (by rw [HGE.out, HXE.out, HC.out]))
                rw [← HQ.out] at HST
                go_roundw
                case rel => exact ⟨1, _, by omega, by go_num, HRZ4.out.kept hg5 (by simp; omega) (by simp; omega), hown5, HST, HTZ4.out.grown hg5 (fun j hj => by cases hj; exact .inr (.inl rfl))⟩
                case measure => simp [intOf]
          · obtain ⟨r, hr⟩ : ∃ r : Int, r = 1 - 1 := ⟨_, rfl⟩
            have HR : Hid (∀ w, Calls Try.prog 76 #[.int .u8 70] w fun e w' => e = .returned (.int .i64 r) ∧ w = w') := Lib.hid fun w => by rw [hr]; exact rise_any 70 w
            obtain ⟨q, hq⟩ : ∃ q, h + 1 = q + 1 := ⟨h + 1 - 1, by omega⟩
            have HQ : Hid ((h : Int) + r = (q : Int)) := Lib.hid (by omega)
            have hnn : 0 ≤ (h : Int) + r := by omega
            have hrb : -1 ≤ r ∧ r ≤ 1 := by omega
            have HQQ := Lib.hid hq
            clear hr
            have HWJ : Hid (Calls Try.prog 83 #[.int .u8 70, .int .i64 (h : Int)] wr (AnsN u f d 1 h wr)) := Lib.hid (HW.out 1 h _ (by omega) (by omega) (by omega) htz)
            have hkw : (Lit.int .i64 ((h : Int) + r)).wf = true := WalkArith.wf_i64 (by omega)
            have HG : Hid (At0 D3 ((h : Int) + r) (stg u f d k (leftN left) h 1 q)) := Lib.hid (by rw [HQ.out]; exact HM3.out.val q)
            have hgb := stg_bd hw hk (leftN left) h 1 q
            have HXB := Lib.hid (wtJ_bd hw 1 h)
            have HO3 := Lib.hid ho3
            have HRZ := Lib.hid hrz
            have HTZ := Lib.hid htz
            clear ho3 hrz htz hq
            obtain ⟨G, hG⟩ : ∃ G, G = stg u f d k (leftN left) h 1 q := ⟨_, rfl⟩
            rw [← hG] at hgb HG
            have HGE := Lib.hid hG
            clear hG
            go_wp2_with (go_at_call 76; refine (HR.out _).mono ?_; rintro e w' ⟨rfl, rfl⟩)
            go_at_call 83
            refine HWJ.out.mono ?_
            rintro e w2 ⟨x, ok, rfl, hok1, hok2, hbw⟩
            have hgw := grown_ofB hbw
            have HO4 := Lib.hid (HO3.out.kept hgw (by simp))
            have HRZ4 := Lib.hid (HRZ.out.kept hgw (by simp) (by simp))
            have HTZ4 := Lib.hid (HTZ.out.grown hgw (by simp))
            cases ok with
            | false =>
              have HST := Lib.hid (map_stay HLX.out (by omega) (.inr (hok2 rfl)) HM3.out)
              clear hok1 hok2 hbw hgw
              go_wp2_with fail
              go_roundw
              case rel => exact ⟨2, D3, by omega, by go_num, HRZ4.out, HO4.out.mono (by omega), HST, HTZ4.out⟩
              case measure => simp [intOf]
            | true =>
              have hxe := hok1 rfl
              have HXE := Lib.hid hxe
              have hxb := HXB.out
              rw [← hxe] at hxb
              have hmb := mul_abs (A := 5559060566555523) (B := 9) hcb hxb
              have ho4 := HO4.out
              clear hok1 hok2 hbw hgw hxe
              go_wp2_with (first
                | (at_lookup; refine wpList_lookup_own_int _ rfl _ _ 98 rfl 3 3 .i64 gmLaw Try.underlying98 Try.underlying3 (gmZero _) b2 _ D3 rfl ho4 _ _ rfl (keyOf_int_mk Try.underlying3 hkw) ?_; intro y hat2 hwy; obtain rfl := at0_inj HG.out hat2; clear hat2 hwy)
                | (at_mapUpdate; refine wpList_mapUpdate_own _ rfl _ _ _ 98 rfl 3 3 gmLaw Try.underlying98 _ b2 _ D3 rfl ho4 (by unfold maxLen; omega) _ _ _ rfl rfl (keyOf_int_mk Try.underlying3 hkw) _ [] (plainElem_int Try.underlying3 (WalkArith.wf_i64 (by omega))) ?_; intro w5 hown5 hg5; go_frame)
                | go_in)
              have HST := Lib.hid (map_step HLX.out (by omega) HQQ.out ho4.isMap HM3.out (by have := HQQ.out; omega) (x := y + c * x) (by rw [HGE.out, HXE.out, HC.out]))
              rw [← HQ.out] at HST
              go_roundw
              case rel => exact ⟨2, _, by omega, by go_num, HRZ4.out.kept hg5 (by simp; omega) (by simp; omega), hown5, HST, HTZ4.out.grown hg5 (fun j hj => by cases hj; exact .inr (.inl rfl))⟩
              case measure => simp [intOf]
          · obtain ⟨r, hr⟩ : ∃ r : Int, r = 2 - 1 := ⟨_, rfl⟩
            have HR : Hid (∀ w, Calls Try.prog 76 #[.int .u8 85] w fun e w' => e = .returned (.int .i64 r) ∧ w = w') := Lib.hid fun w => by rw [hr]; exact rise_any 85 w
            obtain ⟨q, hq⟩ : ∃ q, h + 2 = q + 1 := ⟨h + 2 - 1, by omega⟩
            have HQ : Hid ((h : Int) + r = (q : Int)) := Lib.hid (by omega)
            have hnn : 0 ≤ (h : Int) + r := by omega
            have hrb : -1 ≤ r ∧ r ≤ 1 := by omega
            have HQQ := Lib.hid hq
            clear hr
            have HWJ : Hid (Calls Try.prog 83 #[.int .u8 85, .int .i64 (h : Int)] wr (AnsN u f d 2 h wr)) := Lib.hid (HW.out 2 h _ (by omega) (by omega) (by omega) htz)
            have hkw : (Lit.int .i64 ((h : Int) + r)).wf = true := WalkArith.wf_i64 (by omega)
            have HG : Hid (At0 D3 ((h : Int) + r) (stg u f d k (leftN left) h 2 q)) := Lib.hid (by rw [HQ.out]; exact HM3.out.val q)
            have hgb := stg_bd hw hk (leftN left) h 2 q
            have HXB := Lib.hid (wtJ_bd hw 2 h)
            have HO3 := Lib.hid ho3
            have HRZ := Lib.hid hrz
            have HTZ := Lib.hid htz
            clear ho3 hrz htz hq
            obtain ⟨G, hG⟩ : ∃ G, G = stg u f d k (leftN left) h 2 q := ⟨_, rfl⟩
            rw [← hG] at hgb HG
            have HGE := Lib.hid hG
            clear hG
            go_wp2_with (go_at_call 76; refine (HR.out _).mono ?_; rintro e w' ⟨rfl, rfl⟩)
            go_at_call 83
            refine HWJ.out.mono ?_
            rintro e w2 ⟨x, ok, rfl, hok1, hok2, hbw⟩
            have hgw := grown_ofB hbw
            have HO4 := Lib.hid (HO3.out.kept hgw (by simp))
            have HRZ4 := Lib.hid (HRZ.out.kept hgw (by simp) (by simp))
            have HTZ4 := Lib.hid (HTZ.out.grown hgw (by simp))
            cases ok with
            | false =>
              have HST := Lib.hid (map_stay HLX.out (by omega) (.inr (hok2 rfl)) HM3.out)
              clear hok1 hok2 hbw hgw
              go_wp2_with fail
              go_roundw
              case rel => exact ⟨3, D3, by omega, by go_num, HRZ4.out, HO4.out.mono (by omega), HST, HTZ4.out⟩
              case measure => simp [intOf]
            | true =>
              have hxe := hok1 rfl
              have HXE := Lib.hid hxe
              have hxb := HXB.out
              rw [← hxe] at hxb
              have hmb := mul_abs (A := 5559060566555523) (B := 9) hcb hxb
              have ho4 := HO4.out
              clear hok1 hok2 hbw hgw hxe
              go_wp2_with (first
                | (at_lookup; refine wpList_lookup_own_int _ rfl _ _ 98 rfl 3 3 .i64 gmLaw Try.underlying98 Try.underlying3 (gmZero _) b2 _ D3 rfl ho4 _ _ rfl (keyOf_int_mk Try.underlying3 hkw) ?_; intro y hat2 hwy; obtain rfl := at0_inj HG.out hat2; clear hat2 hwy)
                | (at_mapUpdate; refine wpList_mapUpdate_own _ rfl _ _ _ 98 rfl 3 3 gmLaw Try.underlying98 _ b2 _ D3 rfl ho4 (by unfold maxLen; omega) _ _ _ rfl rfl (keyOf_int_mk Try.underlying3 hkw) _ [] (plainElem_int Try.underlying3 (WalkArith.wf_i64 (by omega))) ?_; intro w5 hown5 hg5; go_frame)
                | go_in)
              have HST := Lib.hid (map_step HLX.out (by omega) HQQ.out ho4.isMap HM3.out (by have := HQQ.out; omega) (x := y + c * x) (by rw [HGE.out, HXE.out, HC.out]))
              rw [← HQ.out] at HST
              go_roundw
              case rel => exact ⟨3, _, by omega, by go_num, HRZ4.out.kept hg5 (by simp; omega) (by simp; omega), hown5, HST, HTZ4.out.grown hg5 (fun j hj => by cases hj; exact .inr (.inl rfl))⟩
              case measure => simp [intOf]
        · obtain rfl : j = 3 := by omega
          have HRZ := Lib.hid hrz
          have HO3 := Lib.hid ho3
          have HTZ := Lib.hid htz
          clear ho3 htz
          go_wp2_with (first | (at_delete; refine wpList_delete_ranges _ rfl _ _ 98 3 rfl 3 gmLaw Try.underlying98 _ b w.heap.size n _ _ _ rfl hrz _ _ rfl (keyOf_int_mk Try.underlying3 hwx) ?_; intro w4 cnt4 hrg4 hle hturn; go_frame) | go_in)
          rw [strike_twice] at hrg4
          go_roundw
          case rel => exact ⟨_, cnt4, _, D3, hrg4, by omega, (HO3.out.kept hturn.grown (by simp; omega)).mono (by omega), Lib.hid (HMV.out.next h HM3.out), HTZ.out.grown hturn.grown (fun j hj => by cases hj; exact .inl rfl)⟩
          case measure => rw [hrg4.left_eq, HRG.out.left_eq]; omega
theorem irow_sameN {w w' : World} {B : Nat} {v : Value} {xs : List Int} (h : IRow w B v xs) (e : ∀ k, v.ownBlock = some k → w'.heap[k]? = w.heap[k]?) : IRow w' B v xs := by
  refine ⟨h.1, ?_⟩
  rcases h.2 with h2 | ⟨g, cap, cur, hv, hB, hg, r⟩
  · exact .inl h2
  · subst hv
    exact .inr ⟨g, cap, cur, rfl, hB, by rw [e g rfl]; exact hg, r⟩
set_option maxRecDepth 100000 in
set_option maxHeartbeats 4000000 in
theorem momentsByN (u f d : Nat → Int) (hw : W9 u f d) (N : Nat) (hN : N ≤ 12)  (w : World)
    (HW : Hid (∀ (j h : Nat) (wq : World), j < 3 → h ≤ 11 → 1 ≤ h + j → Below w.heap.size w wq → Calls Try.prog 83 #[.int .u8 ((akC j).toNat : Int), .int .i64 (h : Int)] wq (AnsN u f d j h wq))) :
    Calls Try.prog 82 #[.int .i64 (N : Int), cloN ] w fun e w' => ∃ v, e = .returned v ∧ IRow w' w.heap.size v (fr (fun k => gm u f d k 0) (N + 1)) ∧ Below w.heap.size w w' := by
  have hmm := @run_makeMap Try.prog
  obtain ⟨wA, hwA⟩ : ∃ wA, wA = w.alloc (.cells #[.int .i64 1] 3) := ⟨_, rfl⟩
  have hszA : wA.heap.size = w.heap.size + 1 := by rw [hwA]; simp
  have HRA : Hid (IRow wA w.heap.size (.slice (some ⟨w.heap.size, 0, none⟩) 1 1) (fr (fun k => gm u f d k 0) (0 + 1))) := Lib.hid (by
    rw [hwA]
    exact IRow.of_own (World.ownsRow_lit w #[.int .i64 1] 1 (Nat.le_refl _) (by simp [maxLen]) rfl) rfl rfl)
  have HBA : Hid (Below w.heap.size w wA) := Lib.hid (by rw [hwA]; exact (Below.refl _ _).alloc (Nat.le_refl _) _)
  have HO1 : Hid (OM ((w.alloc (.cells #[.int .i64 1] 3)).alloc (.map #[] 0)) (w.heap.size + 1) 0 (.map [])) := Lib.hid (by
    have := World.ownsMap_made (H := Unit) wA Try.prog 3 (plainElem (H := Unit) Try.prog 3)
    rw [hszA, hwA] at this
    exact this)
  have HWA := Lib.hid hwA
  clear hwA
  go_enter Try.func82, Try.ntmps82
  go_wp2_with (first | (refine wpList_insert_own _ rfl (.tmp 9) (.const (.int .i64 0)) (.const (.int .i64 1)) 98 rfl 3 3 gmLaw Try.underlying98 _ (w.heap.size + 1) 0 (.map []) rfl HO1.out (by simp [maxLen]) (.int .i64 0) (.int .i64 1) (kI 0) rfl rfl (keyOf_int_mk Try.underlying3 (by decide)) (.lit (kI 1)) [] (plainElem_int Try.underlying3 (by decide)) ?_; intro wB hoB hgB) | go_in)
  rw [← HWA.out] at hgB
  have hszB : wA.heap.size + 1 ≤ wB.heap.size := by have := hgB.size; simpa using this
  obtain ⟨gB, hgBe⟩ : ∃ gB, gB = wB.heap.size := ⟨_, rfl⟩
  have HRB : Hid (IRow wB w.heap.size (.slice (some ⟨w.heap.size, 0, none⟩) 1 1) (fr (fun k => gm u f d k 0) (0 + 1))) := Lib.hid (irow_sameN (w := wA) HRA.out fun q hq => by
    injection hq with hq
    subst hq
    rw [hgB.block _ (by show w.heap.size < _; simp; omega) (by show some w.heap.size ≠ _; simp)]
    exact (Below.refl wA.heap.size wA).alloc (Nat.le_refl _) (.map #[] 0) |>.block _ (by show w.heap.size < _; omega))
  have HBB : Hid (Below w.heap.size w wB) := Lib.hid ((HBA.out.alloc (by omega) _).grown hgB (by simp; omega) (fun j hj => by cases hj; omega))
  have HMB : Hid (MapIs (DataW.put (.map []) (kI 0) (.lit (kI 1))) 0 (gm u f d 0)) := Lib.hid ⟨fun t => by
    by_cases e : t = 0
    · subst e
      exact at0_put_same isMap_empty _ _
    · rw [show gm u f d 0 t = 0 by unfold gm; rw [if_neg e]]
      exact at0_put_other (by omega) (at0_none (fun z => rfl) _), keys_put isMap_empty (fun z hz => by cases hz) 0 (Nat.le_refl _) _⟩
  have HOB := Lib.hid (hoB.alloc (.map #[] 0))
  have HOE : Hid (OM (wB.alloc (.map #[] 0)) wB.heap.size 0 (.map [])) := Lib.hid (World.ownsMap_made (H := Unit) wB Try.prog 3 (plainElem (H := Unit) Try.prog 3))
  have HRC := Lib.hid (HRB.out.alloc (.map #[] 0))
  have HBC := Lib.hid (HBB.out.alloc (by omega) (.map #[] 0))
  have hszC : w.heap.size + 2 ≤ wB.heap.size := by omega
  clear hoB hgB HO1 HRA HBA hgBe HRB HBB HWA
  go_loopw [5, 6, 7, 13] (fun v m1 m2 i wr => ∃ (k b b2 : Nat) (D D2 : DataW Unit), k ≤ N ∧ i = .int .i64 (k : Int) ∧ m1 = .map (some b) ∧ m2 = .map (some b2) ∧ IRow wr w.heap.size v (fr (fun k => gm u f d k 0) (k + 1)) ∧ (∀ q, v.ownBlock = some q → q ≠ b ∧ q ≠ b2) ∧ b ≠ b2 ∧ w.heap.size ≤ b ∧ w.heap.size ≤ b2 ∧
    OM wr b (4 ^ k) D ∧ OM wr b2 (4 ^ k) D2 ∧ Hid (MapIs D k (gm u f d k)) ∧ Hid (∀ z, Maps.has D2 z = false) ∧ Below w.heap.size w wr) (fun _ _ _ i _ => N - (intOf i).toNat)
  case atStart =>
    exact ⟨0, w.heap.size + 1, wB.heap.size, _, _, Nat.zero_le _, rfl, rfl, rfl, HRC.out, fun q hq => by injection hq with hq; subst hq; constructor <;> (show w.heap.size ≠ _; omega), by omega, by omega, by omega, HOB.out, HOE.out.mono (by omega), HMB, Lib.hid fun z => rfl, HBC.out⟩
  case round =>
    obtain ⟨k, b, b2, D, D2, hk, rfl, rfl, rfl, hrow, hap, hne, hb, hb2, hom, hom2, HM, HE, hbel⟩ := hrel
    clear HRC HBC HOB HOE HMB hszC hszB hszA
    obtain ⟨A1, c1, rfl⟩ := hrow.shape
    obtain ⟨w0, rfl⟩ : ∃ w0, w0 = wr := ⟨_, rfl⟩
    by_cases hlt : k < N
    · have hpw : 4 ^ k ≤ 20000000 := by
        have h2 : 4 ^ k ≤ 4 ^ 12 := Nat.pow_le_pow_right (by omega) (by omega)
        have h3 : (4 : Nat) ^ 12 = 16777216 := by decide
        omega
      have hz0 := hbel.size
      have HMV := Lib.hid (moveToN u f d hw k (by omega)  b b2 (4 ^ k) D D2 w0 hne hom hom2 hpw HM.out HE.out (Lib.hid fun j h wq h1 h2 h3 h4 => HW.out j h wq h1 h2 h3 (hbel.trans (h4.below hb hb2 hz0))))
      have HROW := Lib.hid hrow
      have HAP := Lib.hid hap
      have HBEL := Lib.hid hbel
      have HFS := Lib.hid (fr_snoc (fun k => gm u f d k 0) (k + 1))
      have HL : Hid ((fr (fun k => gm u f d k 0) (k + 1)).length = k + 1) := Lib.hid (fr_length _ _)
      have hlen : (fr (fun k => gm u f d k 0) (k + 1)).length ≤ 1099511627776 := by rw [HL.out]; omega
      clear hrow hap hbel hom hom2 HM HE hpw
      generalize hLL : fr (fun k => gm u f d k 0) (k + 1) = L at *
      have HLL := Lib.hid hLL
      clear hLL
      have hk0 : (Lit.int .i64 0).wf = true := by decide
      go_wp2_with (first
        | (go_at_call 108; refine HMV.out.mono ?_; rintro e w2 ⟨rfl, htw2, ⟨D5, ho5, h05⟩, D6, ho6, hm6⟩; clear HMV; have hrow2 : IRow w2 w.heap.size (.slice A1 L.length c1) L := irow_sameN HROW.out (fun q hq => htw2.block q (HROW.out.blk q hq).2 (HAP.out q hq).1 (HAP.out q hq).2); have hsz2 : w.heap.size ≤ w2.heap.size := Nat.le_trans hz0 htw2.size; have HB2 : Hid (Below w.heap.size w w2) := Lib.hid (HBEL.out.trans (htw2.below hb hb2 hz0)); have HO5 := Lib.hid ho5; have HO6 := Lib.hid ho6; have H05 := Lib.hid h05; have HM6 := Lib.hid hm6; have HV6 : Hid (At0 D6 0 (gm u f d (k + 1) 0)) := Lib.hid (hm6.val 0); clear htw2 ho5 h05 hm6)
        | (at_lookup; refine wpList_lookup_own_int _ rfl _ _ 98 rfl 3 3 .i64 gmLaw Try.underlying98 Try.underlying3 (gmZero _) b2 _ D6 rfl ho6 _ _ rfl (keyOf_int_mk Try.underlying3 hk0) ?_; intro y hat2 hwy; have hyy := at0_inj HV6.out hat2; subst hyy; clear hat2 hwy)
        | (at_builtin; refine wpList_push (.tmp 21) (.tmp 24) rfl rfl w.heap.size _ L rfl hrow2 rfl hlen hsz2 ?_; intro v' w' hrow' hg' hat')
        | go_in)
      have HR3 : Hid (IRow w' w.heap.size v' (fr (fun k => gm u f d k 0) (k + 1 + 1))) := Lib.hid (by rw [← HFS.out]; exact hrow')
      have HB3 := Lib.hid (HB2.out.grown hg' hsz2 (fun q hq => (hrow2.blk q hq).1))
      have hlt5 : b < w2.heap.size := HO5.out.lt
      have hlt6 : b2 < w2.heap.size := HO6.out.lt
      have HO7 := Lib.hid (HO5.out.kept hg' (fun e => (HAP.out b e.symm).1 rfl))
      have HO8 := Lib.hid (HO6.out.kept hg' (fun e => (HAP.out b2 e.symm).2 rfl))
      have HAP3 : Hid (∀ q, v'.ownBlock = some q → q ≠ b2 ∧ q ≠ b) := Lib.hid fun q hq => by
        rcases hat' with h | ⟨g', h, hg2⟩
        · exact (HAP.out q (h.symm.trans hq)).symm
        · rw [h] at hq
          injection hq with hq
          omega
      have HPW : Hid (4 ^ k ≤ 4 ^ (k + 1) ∧ 4 * 4 ^ k ≤ 4 ^ (k + 1)) := Lib.hid (by rw [Nat.pow_succ]; omega)
      clear hrow2 hrow' hg' hat' ho6
      go_roundw
      case rel => exact ⟨k + 1, b2, b, D6, D5, by omega, by go_num, rfl, rfl, HR3.out, HAP3.out, fun e => hne e.symm, hb2, hb, HO8.out.mono HPW.out.2, HO7.out.mono HPW.out.1, HM6, H05, HB3.out⟩
      case measure => simp [intOf]; omega
    · obtain rfl : k = N := by omega
      have HROW := Lib.hid hrow
      have HBEL := Lib.hid hbel
      clear hrow hbel hom hom2 hap
      go_wp2_with fail
      go_ret
      exact ⟨_, rfl, HROW.out, HBEL.out⟩
end Go.Proofs.Ytnmmgpmhpjjehaa
