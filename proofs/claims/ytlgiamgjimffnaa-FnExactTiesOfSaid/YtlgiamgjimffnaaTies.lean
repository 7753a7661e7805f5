/- TiesOf: the steps behind which there is a tie. -/
import Derived.Test.YtlgiamgjimffnaaAheadB
namespace Go.Proofs.Ytlgiamgjimffnaa
open Go.RowKit
def tiesV (s : ByteArray) (k : Int) : List Int := zs (mg s k) (mgN s k)
theorem tiesV_len (s : ByteArray) (k : Int) : (tiesV s k).length ≤ 1048577 := by
  have h1 := zs_length (mg s k) (mgN s k)
  have h2 := mgN_le s k
  unfold tiesV; omega
set_option maxHeartbeats 400000 in
theorem ties_ret (s : ByteArray) (k : Int) (w : World) (hs : s.size ≤ maxLen) : Calls Try.prog 34 #[.string s, .int .i64 k] w (IntsRet w (balOk s k) (tiesV s k)) := by
  have HL : Hid (∀ w, Calls Try.prog 77 #[.string s, .int .i64 k] w (IntsRet w (balOk s k) (fr (mg s k) (mgN s k)))) := Lib.hid fun w => leadsN_ret s k w hs
  have hn := mgN_le s k
  unfold tiesV
  generalize balOk s k = b at *
  generalize mg s k = f at *
  generalize mgN s k = n at *
  by_cases h0 : n = 0
  · subst h0
    go_enter Try.func34, Try.ntmps34
    go_wp2_with (go_at_call 77; refine (HL.out _).mono ?_; rintro e w1 ⟨v, rfl, hr, hb⟩; obtain ⟨A1, c1, rfl⟩ := hr.shape; rw [fr_length] at *; clear hr)
    refine wp_loop_rounds 1 ?_; rw [rounds_succ]
    go_wp2
    go_ret2
    exact ⟨_, rfl, IRow.nil _ _, hb⟩
  · go_enter Try.func34, Try.ntmps34
    go_wp2_with (go_at_call 77; refine (HL.out _).mono ?_; rintro e w1 ⟨v, rfl, hr, hb⟩; obtain ⟨g, c, rfl, hgB, hgl⟩ := hr.form' (fr_length _ _) (show 0 < n by omega); have H1 := Lib.hid hr; clear hr h0)
    have hsz0 := hb.size
    go_loopw [8, 19] (fun v i wr => ∃ j : Nat, j ≤ n ∧ i = .int .i64 j ∧ IRow wr w1.heap.size v (zs f j) ∧ Below w1.heap.size w1 wr) (fun _ i _ => n - (intOf i).toNat)
    case atStart => exact ⟨0, Nat.zero_le _, rfl, IRow.nil _ _, Below.refl _ _⟩
    case round =>
      obtain ⟨j, hj, rfl, hrow, hb1⟩ := hrel
      by_cases hlt : j < n
      · have e1 := (H1.out.below hb1).cell (j := j) (by rw [fr_length]; omega)
        rw [fr_get f n j hlt] at e1
        have hsz := hb1.size
        have hl := zs_length f j
        rcases Bool.eq_false_or_eq_true (f j == 0) with hc | hc
        · have HZ := Lib.hid (zs_yes hc)
          go_wp2_with (at_builtin; refine wpList_push (.tmp 26) (.tmp 28) rfl rfl w1.heap.size _ (zs f j) rfl hrow rfl (by omega) hsz ?_; intro v' w' hrow' hg' hat')
          go_roundw
          case rel => exact ⟨j + 1, by omega, by go_num, by rw [HZ.out]; exact hrow', hb1.grown hg' hsz (fun i hi => (hrow.blk i hi).1)⟩
          case measure => first | (simp [intOf]; done) | (simp [intOf]; omega)
        · have HZ := Lib.hid (zs_no hc)
          go_wp2
          go_roundw
          case rel => exact ⟨j + 1, by omega, by go_num, by rw [HZ.out]; exact hrow, hb1⟩
          case measure => first | (simp [intOf]; done) | (simp [intOf]; omega)
      · have HK : Hid (j = n) := by unfold Hid; omega
        go_wp2
        go_ret2
        exact ⟨_, rfl, by rw [← HK.out]; exact hrow.mono hb.size, hb.trans (hb1.mono hb.size)⟩
set_option maxHeartbeats 400000 in
theorem specTies_ret (s : ByteArray) (k : Int) (w : World) (hs : s.size ≤ maxLen) : Calls Try.prog 33 #[.string s, .int .i64 k] w (IntsRet w (balOk s k) (tiesV s k)) := by
  rcases Bool.eq_false_or_eq_true (balOk s k) with hp | hp
  · have HC := Lib.hid (balOk_of hp)
    have HM : Hid (∀ w, Calls Try.prog 79 #[.string s, .int .i64 k] w (IntsNew w (fr (mg s k) (s.size + 1)))) := Lib.hid fun w => baMargin_any s k w HC.out.1 HC.out.2
    have hn := mgN_le s k
    have hnn := mgN_yes hp
    unfold tiesV
    rw [← hnn] at HM
    clear hnn
    generalize mg s k = f at *
    generalize mgN s k = n at *
    rw [hp]
    by_cases h0 : n = 0
    · subst h0
      go_enter Try.func33, Try.ntmps33
      go_wp2_with (first | (go_at_call 75; refine (asked_any s k _ hs).mono ?_; rintro e w' ⟨rfl, rfl⟩; rw [hp]) | (go_at_call 79; refine (HM.out _).mono ?_; rintro e w1 ⟨v, rfl, hr, hb⟩; obtain ⟨A1, c1, rfl⟩ := hr.shape; rw [fr_length] at *; clear hr))
      refine wp_loop_rounds 1 ?_; rw [rounds_succ]
      go_wp2
      go_ret2
      exact ⟨_, rfl, IRow.nil _ _, hb⟩
    · go_enter Try.func33, Try.ntmps33
      go_wp2_with (first | (go_at_call 75; refine (asked_any s k _ hs).mono ?_; rintro e w' ⟨rfl, rfl⟩; rw [hp]) | (go_at_call 79; refine (HM.out _).mono ?_; rintro e w1 ⟨v, rfl, hr, hb⟩; obtain ⟨g, c, rfl, hgB, hgl⟩ := hr.form' (fr_length _ _) (show 0 < n by omega); have H1 := Lib.hid hr; clear hr h0))
      have hsz0 := hb.size
      go_loopw [6, 17] (fun v i wr => ∃ j : Nat, j ≤ n ∧ i = .int .i64 j ∧ IRow wr w1.heap.size v (zs f j) ∧ Below w1.heap.size w1 wr) (fun _ i _ => n - (intOf i).toNat)
      case atStart => exact ⟨0, Nat.zero_le _, rfl, IRow.nil _ _, Below.refl _ _⟩
      case round =>
        obtain ⟨j, hj, rfl, hrow, hb1⟩ := hrel
        by_cases hlt : j < n
        · have e1 := (H1.out.below hb1).cell (j := j) (by rw [fr_length]; omega)
          rw [fr_get f n j hlt] at e1
          have hsz := hb1.size
          have hl := zs_length f j
          rcases Bool.eq_false_or_eq_true (f j == 0) with hc | hc
          · have HZ := Lib.hid (zs_yes hc)
            go_wp2_with (at_builtin; refine wpList_push (.tmp 24) (.tmp 26) rfl rfl w1.heap.size _ (zs f j) rfl hrow rfl (by omega) hsz ?_; intro v' w' hrow' hg' hat')
            go_roundw
            case rel => exact ⟨j + 1, by omega, by go_num, by rw [HZ.out]; exact hrow', hb1.grown hg' hsz (fun i hi => (hrow.blk i hi).1)⟩
            case measure => first | (simp [intOf]; done) | (simp [intOf]; omega)
          · have HZ := Lib.hid (zs_no hc)
            go_wp2
            go_roundw
            case rel => exact ⟨j + 1, by omega, by go_num, by rw [HZ.out]; exact hrow, hb1⟩
            case measure => first | (simp [intOf]; done) | (simp [intOf]; omega)
        · have HK : Hid (j = n) := by unfold Hid; omega
          go_wp2
          go_ret2
          exact ⟨_, rfl, by rw [← HK.out]; exact hrow.mono hb.size, hb.trans (hb1.mono hb.size)⟩
  · have HT : Hid (tiesV s k = []) := by unfold Hid tiesV; rw [mgN_no hp]; rfl
    rw [HT.out, hp]
    go_enter Try.func33, Try.ntmps33
    go_wp2_with (go_at_call 75; refine (asked_any s k _ hs).mono ?_; rintro e w' ⟨rfl, rfl⟩; rw [hp])
    go_ret2
    exact ⟨_, rfl, IRow.nil _ _, Below.refl _ _⟩
end Go.Proofs.Ytlgiamgjimffnaa
