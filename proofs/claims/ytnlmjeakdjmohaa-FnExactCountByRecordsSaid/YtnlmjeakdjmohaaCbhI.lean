/- The program's CountByHighest. -/
import Derived.Test.YtnlmjeakdjmohaaCbhS
import Derived.Test.YtnlmjeakdjmohaaToI
namespace Go.Proofs.Ytnlmjeakdjmohaa
open Go.RowKit
set_option linter.unusedVariables false
set_option maxRecDepth 100000 in
set_option maxHeartbeats 800000 in
theorem countByHighest_ret (n : Int) (w : World) : Calls Try.prog 101 #[.int .i64 n] w (IntsRet w (chOk n) (chV n)) := by
  by_cases n1 : 0 ≤ n
  case neg =>
    have e1 : chOk n = false := by unfold chOk inB; simp; omega
    have e2 : chV n = [] := by rw [chV, e1]; rfl
    rw [e1, e2]
    clear e1 e2
    go_enter Try.func101, Try.ntmps101
    go_wp2
    go_ret2
    exact ⟨_, rfl, IRow.nil _ _, Below.refl _ _⟩
  by_cases n2 : n ≤ 40
  case neg =>
    have e1 : chOk n = false := by unfold chOk inB; simp; omega
    have e2 : chV n = [] := by rw [chV, e1]; rfl
    rw [e1, e2]
    clear e1 e2
    go_enter Try.func101, Try.ntmps101
    go_wp2
    go_ret2
    exact ⟨_, rfl, IRow.nil _ _, Below.refl _ _⟩
  have e1 : chOk n = true := by unfold chOk inB; simp; omega
  have e2 : chV n = fr (byH n) (n + 1).toNat := by rw [chV, if_pos e1]
  obtain ⟨m, rfl⟩ : ∃ m : Nat, n = m := ⟨n.toNat, by omega⟩
  have hm : m ≤ 40 := by omega
  rw [e1, e2, show ((m : Int) + 1).toNat = m + 1 by omega]
  clear e1 e2
  obtain ⟨i0, hi0, hz0, hz1, hz2⟩ := info_parts intInfo
  go_enter Try.func101, Try.ntmps101
  go_wp2_with (refine wpList_make_full _ rfl (.tmp 13) (.tmp 13) 44 rfl w.heap.size 3 i0 (.int .i64 0) 1 Try.underlying44 hi0 hz0 hz1 .i64 .i64 _ _ (m + 1) rfl rfl (by omega) (by omega) (by rw [hz2]; omega) (by unfold maxLen; omega) (Nat.le_refl _) ?_; intro w1 hown1 hgrow1)
  have hrow1 : IRow w1 w.heap.size (.slice (some ⟨w.heap.size, 0, none⟩) (m + 1) (m + 1)) (fil (byH m) (m + 1) 0) :=
    IRow.of_own hown1 (by simp [fil_length]) (by rw [fil_zero, madeOne _ rfl]; simp)
  have hb1 : Below w.heap.size w w1 := (Below.refl _ _).grown hgrow1 (Nat.le_refl _) (by simp)
  clear hown1 hgrow1
  go_loopw [5, 17] (fun q i wr => ∃ j : Nat, j ≤ m + 1 ∧ i = .int .i64 (j : Int) ∧ IRow wr w.heap.size (.slice (some ⟨w.heap.size, 0, none⟩) (m + 1) (m + 1)) (fil (byH m) (m + 1) j) ∧ Below w.heap.size w wr) (fun _ i _ => m + 1 - (intOf i).toNat)
  case atStart => exact ⟨0, Nat.zero_le _, rfl, hrow1, hb1⟩
  case round =>
    obtain ⟨j, hj, rfl, hrow, hb⟩ := hrel
    by_cases hlt : j < m + 1
    · have hsz := hb.size
      have b1 := toZ_bd m j (by omega)
      have b2 := toZ_bd m ((j : Int) + 1) (by omega)
      have H1 : Hid (∀ w, Calls Try.prog 138 #[.int .i64 (m : Int), .int .i64 (j : Int)] w fun e w' => e = .returned (.int .i64 (toZ m j)) ∧ w = w') := Lib.hid fun w => countToEnd_ret _ _ w (by omega) (by omega)
      have H2 : Hid (∀ w, Calls Try.prog 138 #[.int .i64 (m : Int), .int .i64 ((j : Int) + 1)] w fun e w' => e = .returned (.int .i64 (toZ m ((j : Int) + 1))) ∧ w = w') := Lib.hid fun w => countToEnd_ret _ _ w (by omega) (by omega)
      have hst := (hrow.set j (byH m j)).1
      rw [fil_set] at hst
      have HS : byH m j = toZ m j + toZ m ((j : Int) + 1) := rfl
      rw [HS] at hst
      have HST := Lib.hid hst
      have i1 : (j : Int) < (m : Int) + 1 := by omega
      have hf3 := hrow.free j
      have hc3 := hrow.cell (j := j) (by rw [fil_length]; omega)
      have tok1 : True := trivial
      clear hrow hrow1 hb1 hst HS
      generalize toZ m j = z1 at *
      generalize toZ m ((j : Int) + 1) = z2 at *
      go_wp2_with (first
        | (have _t := tok1; go_at_call 138; clear _t tok1; refine (H1.out _).mono ?_; rintro e w2 ⟨rfl, rfl⟩)
        | (go_at_call 138; refine (H2.out _).mono ?_; rintro e w3 ⟨rfl, rfl⟩))
      go_roundw
      case rel => exact ⟨j + 1, by omega, by go_num, HST.out, hb.setCell (p := ⟨w.heap.size, j, none⟩) (Nat.le_refl _) _⟩
      case measure => simp [intOf]; omega
    · obtain rfl : j = m + 1 := by omega
      have hr := hrow
      rw [fil_full] at hr
      have HR := Lib.hid hr
      clear hr hrow
      go_wp2_with fail
      go_ret2
      exact ⟨_, rfl, HR.out, hb⟩
end Go.Proofs.Ytnlmjeakdjmohaa
