/- The program's partsAfter, chanceAfter. -/
import Derived.Test.YtfimcadnlhohlaaAftI
namespace Go.Proofs.Ytfimcadnlhohlaa
open Go.RowKit
set_option linter.unusedVariables false
/-- a row of the call's own and true -/
def RowTrue (w : World) (xs : List Int) (e : Ending) (w' : World) : Prop := ∃ v, e = .returned (.tuple #[v, .bool true]) ∧ IRow w' w.heap.size v xs ∧ Below w.heap.size w w'
set_option maxRecDepth 100000 in
set_option maxHeartbeats 4000000 in
theorem partsAfter_yes (i g n d k : Int) (w : World) (ht : timB i g n d k = true) :
    Calls Try.prog 70 #[.int .i64 i, .int .i64 g, .agg #[.int .i64 n, .int .i64 d], .int .i64 k] w (RowTrue w (fr (hw i.toNat g.toNat n d k.toNat) (g.toNat + 1))) := by
  obtain ⟨i0, hi0, hz0, hz1, hz2⟩ := info_parts intInfo
  obtain ⟨ha, h2, h3⟩ := timB_of ht
  obtain ⟨bg, bi, bd, bn⟩ := askB_of ha
  have hk : inBd 0 18 k = true := by unfold inBd; simp only [Bool.and_eq_true, decide_eq_true_eq]; omega
  have HA : Hid (∀ w, Calls Try.prog 58 #[.int .i64 i, .int .i64 g, .agg #[.int .i64 n, .int .i64 d]] w (Ret w (.bool true))) := Lib.hid fun w => by rw [← ha]; exact isPlay_ret i g n d w
  have H1 : Hid (∀ X : World, Calls Try.prog 54 #[.int .i64 0, .int .i64 18, .slice (some ⟨X.heap.size, 0, none⟩) 1 1] (X.alloc (.cells #[.int .i64 k] 3)) fun e w' => e = .returned (.bool true) ∧ Below X.heap.size X w') := Lib.hid (by rw [← hk]; exact within_lit 0 18 k)
  have HX := Lib.hid (RBox.start w n d)
  have r0 := HX.out.1
  have r1 := HX.out.2.1
  clear ht ha hk
  obtain ⟨I, rfl⟩ := Int.eq_ofNat_of_zero_le bi.1
  obtain ⟨G, rfl⟩ := Int.eq_ofNat_of_zero_le (show 0 ≤ g by omega)
  obtain ⟨K, rfl⟩ := Int.eq_ofNat_of_zero_le h2
  simp only [Int.toNat_natCast]
  have HAG : Hid (∀ (X : World) (B : Nat) (v : Value) (q : Nat), q < K → IRow X B v (fr (hw I G n d q) (G + 1)) → Calls Try.prog 84 #[v, .agg #[.int .i64 n, .int .i64 d]] X (IntsNew X (fr (hw I G n d (q + 1)) (G + 1)))) := Lib.hid fun X B v q hq hr =>
    afterGame_any (hw I G n d q) G n d v X (RInts.of_row hr) (by omega) (by omega) (by omega) (by omega) (fun j hj => hw_bd (by omega) (by omega) (by omega) (by omega) (by omega) hj) (fun m j hm hj => hwP_bd (by omega) (by omega) (by omega) (by omega) (by omega) hm hj)
  have k1 : -9223372036854775808 ≤ (G : Int) + 1 ∧ (G : Int) + 1 ≤ 9223372036854775807 := by omega
  have i1 : (I : Int) < (G : Int) + 1 := by omega
  go_enter Try.func70, Try.ntmps70
  go_wp2_with (first | (go_at_call 58; refine (HA.out _).mono ?_; rintro e wa ⟨rfl, hba⟩; have hx := HX.out.kept hba; have r0 := hx.1; have r1 := hx.2.1; have HX2 := Lib.hid hx; clear hx hba) | (go_at_call 54; refine (H1.out _).mono ?_; rintro e wb ⟨rfl, hbb⟩; have hx := HX2.out.kept hbb; have q0 := hx.1; have q1 := hx.2.1; have HX3 := Lib.hid hx; clear hx hbb r0 r1) | (refine wpList_make_full _ rfl (.tmp 23) (.tmp 23) 51 rfl wb.heap.size 3 i0 (.int .i64 0) 1 Try.underlying51 hi0 hz0 hz1 .i64 .i64 _ _ (G + 1) rfl rfl (by omega) (by omega) (by rw [hz2]; omega) (by unfold maxLen; omega) (Nat.le_refl _) ?_; intro w1 hown1 hgrow1; have hrow1 : IRow w1 wb.heap.size (.slice (some ⟨wb.heap.size, 0, none⟩) (G + 1) (G + 1)) (List.replicate (G + 1) 0) := (IRow.of_own hown1 (by simp) (by rw [madeOne _ rfl]; simp)); have hb1 : Below wb.heap.size wb w1 := ((Below.refl _ _).grown hgrow1 (Nat.le_refl _) (by simp)); have hc1 := hrow1.cell (j := I) (by simp; omega); have hf1 := hrow1.free I; have HST := Lib.hid (hrow1.set I 1).1; clear hown1 hgrow1))
  have HR0 : Hid (IRow (w1.setCell ⟨wb.heap.size, I, none⟩ (.int .i64 1)) wb.heap.size (.slice (some ⟨wb.heap.size, 0, none⟩) (G + 1) (G + 1)) (fr (hw I G n d 0) (G + 1))) := Lib.hid (by
    have := HST.out
    rw [hw_first] at this
    exact this)
  have HB0 : Hid (RBox w w.heap.size n d (w1.setCell ⟨wb.heap.size, I, none⟩ (.int .i64 1))) := Lib.hid (HX3.out.kept (hb1.setCell (p := ⟨wb.heap.size, I, none⟩) (Nat.le_refl _) _))
  have HLB : Hid (w.heap.size < wb.heap.size) := Lib.hid HX3.out.2.2.1
  clear hrow1 hb1 hc1 hf1 HST q0 q1
  go_loopw [10, 29] (fun v m wq => ∃ q : Nat, q ≤ K ∧ m = .int .i64 (q : Int) ∧ IRow wq wb.heap.size v (fr (hw I G n d q) (G + 1)) ∧ RBox w w.heap.size n d wq ∧ wb.heap.size ≤ wq.heap.size) (fun _ m _ => K - (intOf m).toNat)
  case atStart => exact ⟨0, Nat.zero_le _, rfl, HR0.out, HB0.out, by have := HR0.out.lt; omega⟩
  case round =>
    obtain ⟨q, hq, rfl, hrow, hbx, hsz⟩ := hrel
    clear HR0 HB0
    by_cases hlq : q < K
    · obtain ⟨w0, rfl⟩ : ∃ w0, w0 = wr := ⟨_, rfl⟩
      have i0' : (q : Int) < (K : Int) := by omega
      have b0 := hbx.1
      have b1 := hbx.2.1
      have HC := Lib.hid (HAG.out w0 _ _ q hlq hrow)
      have HB := Lib.hid hbx
      clear hrow hbx
      go_wp2_with (go_at_call 84; refine HC.out.mono ?_; rintro e w2 ⟨v2, rfl, hr2, hb2⟩; have HR2 := Lib.hid (hr2.mono hsz); have HB2 := Lib.hid (HB.out.kept hb2); have HS2 := Lib.hid (Nat.le_trans hsz hb2.size); clear hr2 hb2)
      go_roundw
      case rel => exact ⟨q + 1, by omega, by go_num, HR2.out, HB2.out, HS2.out⟩
      case measure => first | (simp [intOf]; done) | (simp [intOf]; omega)
    · obtain rfl : q = K := by omega
      have i0' : ¬ (q : Int) < (q : Int) := by omega
      have HROW := Lib.hid hrow
      have HBX := Lib.hid hbx
      clear hrow hbx
      go_wp2_with fail
      go_ret2
      exact ⟨_, rfl, HROW.out.mono (by have := HLB.out; omega), HBX.out.2.2.2⟩
set_option maxRecDepth 100000 in
set_option maxHeartbeats 2000000 in
theorem partsAfter_no (i g n d k : Int) (w : World) (ht : timB i g n d k = false) :
    Calls Try.prog 70 #[.int .i64 i, .int .i64 g, .agg #[.int .i64 n, .int .i64 d], .int .i64 k] w (Ret w (.tuple #[.slice none 0 0, .bool false])) := by
  have HX := Lib.hid (RBox.start w n d)
  have r0 := HX.out.1
  have r1 := HX.out.2.1
  rcases Bool.eq_false_or_eq_true (askB i g n d) with ha | ha
  · have hk : inBd 0 18 k = false := by
      unfold timB at ht
      rwa [ha, Bool.true_and] at ht
    have HA : Hid (∀ w, Calls Try.prog 58 #[.int .i64 i, .int .i64 g, .agg #[.int .i64 n, .int .i64 d]] w (Ret w (.bool true))) := Lib.hid fun w => by rw [← ha]; exact isPlay_ret i g n d w
    have H1 : Hid (∀ X : World, Calls Try.prog 54 #[.int .i64 0, .int .i64 18, .slice (some ⟨X.heap.size, 0, none⟩) 1 1] (X.alloc (.cells #[.int .i64 k] 3)) fun e w' => e = .returned (.bool false) ∧ Below X.heap.size X w') := Lib.hid (by rw [← hk]; exact within_lit 0 18 k)
    clear ht ha hk
    go_enter Try.func70, Try.ntmps70
    go_wp2_with (first | (go_at_call 58; refine (HA.out _).mono ?_; rintro e wa ⟨rfl, hba⟩; have hx := HX.out.kept hba; have r0 := hx.1; have r1 := hx.2.1; have HX2 := Lib.hid hx; clear hx hba) | (go_at_call 54; refine (H1.out _).mono ?_; rintro e wb ⟨rfl, hbb⟩; have hx := HX2.out.kept hbb; have q0 := hx.1; have q1 := hx.2.1; have HX3 := Lib.hid hx; clear hx hbb r0 r1))
    go_ret2
    exact ⟨rfl, HX3.out.2.2.2⟩
  · have HA : Hid (∀ w, Calls Try.prog 58 #[.int .i64 i, .int .i64 g, .agg #[.int .i64 n, .int .i64 d]] w (Ret w (.bool false))) := Lib.hid fun w => by rw [← ha]; exact isPlay_ret i g n d w
    clear ht ha
    go_enter Try.func70, Try.ntmps70
    go_wp2_with (go_at_call 58; refine (HA.out _).mono ?_; rintro e wa ⟨rfl, hba⟩; have hx := HX.out.kept hba; have r0 := hx.1; have r1 := hx.2.1; have HX2 := Lib.hid hx; clear hx hba)
    go_ret2
    exact ⟨rfl, HX2.out.2.2.2⟩
end Go.Proofs.Ytfimcadnlhohlaa
