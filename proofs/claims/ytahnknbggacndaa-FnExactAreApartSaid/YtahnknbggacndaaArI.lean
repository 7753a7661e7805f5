/- The program's AreApart. -/
import Derived.Test.YtahnknbggacndaaArMath
import Derived.Test.YtahnknbggacndaaPExt
import Derived.Test.YtahnknbggacndaaPcI
import Derived.Test.YtahnknbggacndaaWthI
namespace Go.Proofs.Ytahnknbggacndaa
open Go.RowKit
set_option linter.unusedVariables false
/-- the ways, and what is taken -/
structure ArB (w : World) (v : Value) (n : Nat) (L : List Wy) (o : Value) (m : Nat) (ts : List Int) (X : World) : Prop where
  r : RWays X v n L
  t : PRow X w.heap.size o m ts
  below : Below w.heap.size w X
theorem ArB.kept {w X X' : World} {v o : Value} {n m : Nat} {L : List Wy} {ts : List Int} (h : ArB w v n L o m ts X) (hb : Below X.heap.size X X') : ArB w v n L o m ts X' := ⟨h.r.below hb, h.t.below hb, h.below.trans (hb.mono h.below.size)⟩
set_option maxRecDepth 100000 in
set_option maxHeartbeats 4000000 in
theorem areApartI_ret (v : Value) (n : Nat) (L : List Wy) (w : World) (h : RWays w v n L) (hn : n ≤ 1048576) : Calls Try.prog 52 #[v] w (Ret w (.tuple #[.bool (arV n L), .bool (arOk n L)])) := by
  have HI : Hid (∀ (X : World) (g : Nat), g = X.heap.size → Calls Try.prog 78 #[.int .i64 1, .int .i64 4, .slice (some ⟨g, 0, none⟩) 1 1] (X.alloc (.cells #[.int .i64 (n : Int)] 3)) fun e w' => e = .returned (.bool (inBd 1 4 (n : Int))) ∧ Below X.heap.size X w') := Lib.hid fun X g hg => wth_1 1 4 (n : Int) X g hg
  unfold arV
  rcases Bool.eq_false_or_eq_true (inBd 1 4 (n : Int)) with a1 | a1
  case inr =>
    have e1 : arOk n L = false := by unfold arOk; rw [a1]; rfl
    obtain ⟨A, c, rfl⟩ := h.shape
    rw [e1]
    rw [a1] at HI
    clear a1 e1 h
    go_enter Try.func52, Try.ntmps52
    go_wp2_with (go_at_call 78; refine (HI.out _ _ rfl).mono ?_; rintro e w1 ⟨rfl, hb1⟩)
    go_ret2
    exact ⟨rfl, hb1⟩
  have hn4 := inBd_if4 a1
  have HY : Hid ((∀ k, k < n → wgB L k = true) → arOk n L = true) := Lib.hid (arOk_yes a1)
  have HN : Hid (∀ k, k < n → wgB L k = false → arOk n L = false) := Lib.hid fun k hk hh => arOk_no hk hh
  have HP : Hid (∀ j, j < n → ∀ w, Calls Try.prog 80 #[wayV (wg L j).1 (wg L j).2.1 (wg L j).2.2] w (PsRet w (wgB L j) (wN L j) (wX L j))) := Lib.hid fun j hj w => placesOf_any _ _ _ w (h.small j hj)
  have HW25 : Hid (∀ j, wN L j ≤ 25) := Lib.hid fun j => ncN_25 _ _ _
  have HXL : Hid (∀ j, (wX L j).length = wN L j * 2) := Lib.hid fun j => ncX_len _ _ _
  have HS : Hid (∀ k m ts, TkOk L k m ts → apB (k + 1) L = (apB k L && !(mtI (wX L k) ts m (wN L k) 0).isSome)) := Lib.hid fun k m ts h => apB_succ h
  obtain ⟨g, o, c, rfl, hg, -⟩ := h.cells (by omega)
  have HR : Hid (RWays w (.slice (some ⟨g, o, none⟩) n c) n L) := Lib.hid h
  rw [a1] at HI
  clear a1 h
  generalize arOk n L = T at *
  go_enter Try.func52, Try.ntmps52
  go_wp2_with (go_at_call 78; refine (HI.out _ _ rfl).mono ?_; rintro e w1 ⟨rfl, hb1⟩; have HA0 : Hid (ArB w (.slice (some ⟨g, o, none⟩) n c) n L (.slice none 0 0) 0 [] w1) := Lib.hid ⟨HR.out.below hb1, ⟨World.ownsRow_nil _ _ _ _, rfl⟩, hb1⟩; clear hb1)
  go_loopw [4, 5, 20] (fun a o2 q wr => ∃ (j m : Nat) (ts : List Int), j ≤ n ∧ q = .int .i64 (j : Int) ∧ a = .bool (apB j L) ∧ m ≤ j * 25 ∧ (∀ p, p < j → wgB L p = true) ∧ TkOk L j m ts ∧ ArB w (.slice (some ⟨g, o, none⟩) n c) n L o2 m ts wr) (fun _ _ q _ => n - (intOf q).toNat)
  case atStart => exact ⟨0, 0, [], Nat.zero_le _, rfl, rfl, Nat.le_refl _, fun p hp => absurd hp (by omega), TkOk.zero L, HA0.out⟩
  case round =>
    obtain ⟨j, m, ts, hj, rfl, rfl, hm, hall, htk, hab⟩ := hrel
    clear HA0
    obtain ⟨A2, c2, rfl⟩ := hab.t.shape
    by_cases hlt : j < n
    · have i1 : (j : Int) < (n : Int) := by omega
      have i2 : 0 ≤ (j : Int) := by omega
      have hr := hab.r.at hlt
      have c0 := hr.1
      have c1 := hr.2.1
      have c2' := hr.2.2
      have HPJ := Lib.hid (HP.out j hlt)
      have HNJ := Lib.hid (HN.out j hlt)
      have HSJ := Lib.hid (HS.out j m ts htk)
      have HXJ := Lib.hid (HXL.out j)
      have h25 := HW25.out j
      have htl := hab.t.2
      have HTK := Lib.hid (htk.succ htl)
      obtain ⟨b, hbq⟩ : ∃ b, wgB L j = b := ⟨_, rfl⟩
      rw [hbq] at HPJ
      have HBQ := Lib.hid hbq
      have HALL := Lib.hid hall
      generalize (wg L j).1 = x at *
      generalize (wg L j).2.1 = y at *
      generalize (wg L j).2.2 = s at *
      have hb0 : Below wr.heap.size wr (wr.alloc (.cells #[.int .i64 x, .int .i64 y, .string s] 33)) := (Below.refl _ _).alloc (Nat.le_refl _) _
      have HAB := Lib.hid (hab.kept hb0)
      generalize wX L j = X2 at *
      generalize wN L j = N2 at *
      clear hbq hr hall htk hab hb0 htl
      go_wp2_with fail
      refine (HPJ.out _).mono ?_
      rintro e w2 ⟨pv, rfl, hpr, hb2⟩
      have HAB2 := Lib.hid (HAB.out.kept hb2)
      obtain ⟨A3, c3, rfl⟩ := hpr.shape
      have HPR := Lib.hid hpr
      clear hb2 hpr c0 c1 c2'
      cases b with
      | false =>
        have HT := Lib.hid (HNJ.out HBQ.out)
        go_wp2_with fail
        go_ret2
        exact ⟨by rw [HT.out]; rfl, HAB2.out.below⟩
      | true =>
        clear HNJ
        go_wp2_with fail
        refine (firstShared_any _ _ N2 m X2 ts _ (RPls.of_row HPR.out) (RPls.of_row HAB2.out.t) (by omega) (by omega)).mono ?_
        rintro e w3 ⟨rfl, hb3⟩
        have HAB3 := Lib.hid (HAB2.out.kept hb3)
        have HPR3 := Lib.hid (HPR.out.below hb3)
        clear hb3
        obtain ⟨M, hM⟩ : ∃ M, mtI X2 ts m N2 0 = M := ⟨_, rfl⟩
        rw [hM] at HSJ ⊢
        clear hM
        generalize apB j L = ap at *
        cases M with
        | none =>
          have HF : Hid (apB (j + 1) L = ap) := Lib.hid (by rw [HSJ.out]; simp)
          unfold mtV
          go_wp2_with (refine wpList_extendP (.tmp 39) (.tmp 40) rfl rfl w.heap.size _ _ m N2 ts X2 rfl HAB3.out.t rfl (RPls.of_row HPR3.out) HXJ.out (by omega) HAB3.out.below.size ?_; intro v' w' hr' hg' hat')
          have HRW : Hid (RWays w' (.slice (some ⟨g, o, none⟩) n c) n L) := Lib.hid (HR.out.below (HAB3.out.below.trans ((Below.refl _ _).grown hg' HAB3.out.below.size (fun q hq => (HAB3.out.t.blk q hq).1))))
          have HBW := Lib.hid (HAB3.out.below.trans ((Below.refl _ _).grown hg' HAB3.out.below.size (fun q hq => (HAB3.out.t.blk q hq).1)))
          have HTW := Lib.hid hr'
          obtain ⟨A5, c5, rfl⟩ := hr'.shape
          clear hr' hg' hat'
          go_wp2_with fail
          go_roundw
          case rel => exact ⟨j + 1, m + N2, ts ++ X2, by omega, by go_num, by rw [HF.out], by omega, fun p hp => by
            rcases Nat.lt_or_ge p j with h | h
            · exact HALL.out p h
            · obtain rfl : p = j := by omega
              exact HBQ.out, HTK.out, ⟨HRW.out, HTW.out, HBW.out⟩⟩
          case measure => first | (simp [intOf]; done) | (simp [intOf]; omega)
        | some pq =>
          obtain ⟨p1, p2⟩ := pq
          have HF : Hid (apB (j + 1) L = false) := Lib.hid (by rw [HSJ.out]; simp)
          unfold mtV
          go_wp2_with (refine wpList_extendP (.tmp 39) (.tmp 40) rfl rfl w.heap.size _ _ m N2 ts X2 rfl HAB3.out.t rfl (RPls.of_row HPR3.out) HXJ.out (by omega) HAB3.out.below.size ?_; intro v' w' hr' hg' hat')
          have HRW : Hid (RWays w' (.slice (some ⟨g, o, none⟩) n c) n L) := Lib.hid (HR.out.below (HAB3.out.below.trans ((Below.refl _ _).grown hg' HAB3.out.below.size (fun q hq => (HAB3.out.t.blk q hq).1))))
          have HBW := Lib.hid (HAB3.out.below.trans ((Below.refl _ _).grown hg' HAB3.out.below.size (fun q hq => (HAB3.out.t.blk q hq).1)))
          have HTW := Lib.hid hr'
          obtain ⟨A5, c5, rfl⟩ := hr'.shape
          clear hr' hg' hat'
          go_wp2_with fail
          go_roundw
          case rel => exact ⟨j + 1, m + N2, ts ++ X2, by omega, by go_num, by rw [HF.out], by omega, fun p hp => by
            rcases Nat.lt_or_ge p j with h | h
            · exact HALL.out p h
            · obtain rfl : p = j := by omega
              exact HBQ.out, HTK.out, ⟨HRW.out, HTW.out, HBW.out⟩⟩
          case measure => first | (simp [intOf]; done) | (simp [intOf]; omega)
    · obtain rfl : j = n := by omega
      have HT := Lib.hid (HY.out hall)
      have HB := Lib.hid hab.below
      clear hall hab htk
      generalize apB j L = ap at *
      go_wp2_with fail
      go_ret2
      exact ⟨by rw [HT.out]; rfl, HB.out⟩
end Go.Proofs.Ytahnknbggacndaa
