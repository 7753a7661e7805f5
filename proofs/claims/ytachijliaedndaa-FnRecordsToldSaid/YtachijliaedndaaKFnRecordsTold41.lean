/- Pack 41 of what FnRecordsTold needs: YHelp, YPow. -/
import Derived.Test.YtachijliaedndaaKFnRecordsTold40
import Derived.Deep.QuietTactic
import Derived.BigQuiet
/- ySame, yTexts, ySum, xCount, big: the laws' own helpers. -/
namespace Go.Proofs.Ytachijliaedndaa
open Go.RowKit
set_option maxHeartbeats 400000 in
theorem ySame_same (v1 v2 : Value) (xs : List Int) (B1 B2 : Nat) (w : World) (h1 : IRow w B1 v1 xs) (h2 : IRow w B2 v2 xs) (hl : xs.length ≤ 1099511627776) :
    Calls Try.prog 57 #[v1, v2] w fun e w' => e = .returned (.bool true) ∧ ∃ n, w' = w.drewN n := by
  by_cases h0 : xs.length = 0
  · obtain ⟨A1, c1, rfl⟩ := h1.shape
    obtain ⟨A2, c2, rfl⟩ := h2.shape
    rw [h0]
    clear h1 h2
    go_enter Try.func57, Try.ntmps57
    go_wp2
    refine wp_loop_rounds 1 ?_; rw [rounds_succ]
    go_wp2
    go_ret
    exact ⟨rfl, 0, rfl⟩
  · obtain ⟨g1, c1, rfl, _, _⟩ := h1.form' rfl (by omega)
    obtain ⟨g2, c2, rfl, _, _⟩ := h2.form' rfl (by omega)
    have H1 := Lib.hid h1
    have H2 := Lib.hid h2
    clear h1 h2 h0
    generalize hn : xs.length = n at *
    have HN := Lib.hid hn
    clear hn
    go_enter Try.func57, Try.ntmps57
    go_wp2
    go_loopw [13] (fun i wr => ∃ k : Nat, k ≤ n ∧ i = .int .i64 k ∧ ∃ m, wr = w.drewN m) (fun i _ => n - (intOf i).toNat)
    case atStart => exact ⟨0, Nat.zero_le _, rfl, 0, rfl⟩
    case round =>
      obtain ⟨k, hk, rfl, m, rfl⟩ := hrel
      by_cases hlt : k < n
      · have e1 := H1.out.cell (j := k) (by rw [HN.out]; omega)
        have e2 := H2.out.cell (j := k) (by rw [HN.out]; omega)
        have i1 : (k : Int) < (n : Int) := by omega
        go_wp2
        go_quiet (fail)
        go_wp2
        go_roundw
        case rel => exact ⟨k + 1, by omega, by go_num, _, rfl⟩
        case measure => simp [intOf]; omega
      · go_wp2
        go_ret
        exact ⟨rfl, m, rfl⟩
set_option maxHeartbeats 400000 in
theorem yTexts_same (v1 v2 : Value) (xs : List ByteArray) (B1 B2 : Nat) (w : World) (h1 : SRow w B1 v1 xs) (h2 : SRow w B2 v2 xs) (hl : xs.length ≤ 1099511627776) :
    Calls Try.prog 81 #[v1, v2] w fun e w' => e = .returned (.bool true) ∧ ∃ n, w' = w.drewN n := by
  by_cases h0 : xs.length = 0
  · obtain ⟨A1, c1, rfl⟩ := h1.shape
    obtain ⟨A2, c2, rfl⟩ := h2.shape
    rw [h0]
    clear h1 h2
    go_enter Try.func81, Try.ntmps81
    go_wp2
    refine wp_loop_rounds 1 ?_; rw [rounds_succ]
    go_wp2
    go_ret
    exact ⟨rfl, 0, rfl⟩
  · obtain ⟨g1, c1, rfl, _, _⟩ := h1.form' rfl (by omega)
    obtain ⟨g2, c2, rfl, _, _⟩ := h2.form' rfl (by omega)
    have H1 := Lib.hid h1
    have H2 := Lib.hid h2
    clear h1 h2 h0
    generalize hn : xs.length = n at *
    have HN := Lib.hid hn
    clear hn
    go_enter Try.func81, Try.ntmps81
    go_wp2
    go_loopw [13] (fun i wr => ∃ k : Nat, k ≤ n ∧ i = .int .i64 k ∧ ∃ m, wr = w.drewN m) (fun i _ => n - (intOf i).toNat)
    case atStart => exact ⟨0, Nat.zero_le _, rfl, 0, rfl⟩
    case round =>
      obtain ⟨k, hk, rfl, m, rfl⟩ := hrel
      by_cases hlt : k < n
      · have e1 := H1.out.cell (j := k) (by rw [HN.out]; omega)
        have e2 := H2.out.cell (j := k) (by rw [HN.out]; omega)
        generalize xs.getD k ByteArray.empty = x at e1 e2
        have i1 : (k : Int) < (n : Int) := by omega
        go_wp2
        go_quiet (fail)
        go_wp2
        go_roundw
        case rel => exact ⟨k + 1, by omega, by go_num, _, rfl⟩
        case measure => simp [intOf]; omega
      · go_wp2
        go_ret
        exact ⟨rfl, m, rfl⟩
theorem ysum_take_bd (xs : List Int) (M : Int) (hM : 0 ≤ M) (hb : ∀ x ∈ xs, -M ≤ x ∧ x ≤ M) : ∀ k : Nat, -(M * k) ≤ (xs.take k).sum ∧ (xs.take k).sum ≤ M * k := by
  intro k
  induction k with
  | zero => simp
  | succ k ih =>
    rw [List.take_add_one]
    have e : M * ((k + 1 : Nat) : Int) = M * k + M := by rw [Int.natCast_add, Int.mul_add]; simp
    rw [e]
    cases hx : xs[k]? with
    | none => simp only [Option.toList_none, List.append_nil]; omega
    | some x =>
      have := hb x (List.mem_of_getElem? hx)
      simp only [Option.toList_some, List.sum_append, List.sum_cons, List.sum_nil]
      omega
theorem ysum_step (xs : List Int) (k : Nat) (hk : k < xs.length) : (xs.take (k + 1)).sum = (xs.take k).sum + xs.getD k 0 := by
  rw [List.take_succ_eq_append_getElem hk, List.sum_append, List.getD_eq_getElem?_getD, List.getElem?_eq_getElem hk]
  simp
set_option maxHeartbeats 400000 in
theorem ySum_any (v : Value) (xs : List Int) (B : Nat) (w : World) (h1 : IRow w B v xs) (hl : xs.length ≤ 1000000) (hb : ∀ x ∈ xs, -1073741824 ≤ x ∧ x ≤ 1073741824) :
    Calls Try.prog 72 #[v] w fun e w' => e = .returned (.int .i64 xs.sum) ∧ w = w' := by
  have HB := Lib.hid (ysum_take_bd xs 1073741824 (by omega) hb)
  have HE := Lib.hid hb
  clear hb
  obtain ⟨A1, c1, rfl⟩ := h1.shape
  generalize hn : xs.length = n at *
  have HN := Lib.hid hn
  have H1 := Lib.hid h1
  clear h1 hn
  go_enter Try.func72, Try.ntmps72
  go_wp2
  go_loop [3, 8] (fun s i => ∃ k : Nat, k ≤ n ∧ i = .int .i64 k ∧ s = .int .i64 (xs.take k).sum) (fun _ i => n - (intOf i).toNat)
  case atStart => exact ⟨0, Nat.zero_le _, rfl, rfl⟩
  case round =>
    obtain ⟨k, hk, rfl, rfl⟩ := hrel
    by_cases hlt : k < n
    · obtain ⟨g1, c2, hv, _, _⟩ := H1.out.form' HN.out (by omega)
      have hA : A1 = some ⟨g1, 0, none⟩ := by injection hv
      subst hA
      clear hv
      have e1 := H1.out.cell (j := k) (by rw [HN.out]; omega)
      have hS := Lib.hid (ysum_step xs k (by rw [HN.out]; omega))
      have hb1 := HB.out k
      have hb2 : -1073741824 ≤ xs.getD k 0 ∧ xs.getD k 0 ≤ 1073741824 := by
        have hkl : k < xs.length := by rw [HN.out]; exact hlt
        rw [List.getD_eq_getElem?_getD, List.getElem?_eq_getElem hkl]
        exact HE.out _ (List.getElem_mem hkl)
      generalize xs.getD k 0 = x at *
      generalize (xs.take k).sum = S at *
      go_wp2
      go_round
      case rel => exact ⟨k + 1, by omega, by go_num, by rw [hS.out]⟩
      case measure => simp [intOf]; omega
    · obtain rfl : k = n := by omega
      go_wp2
      go_ret
      exact ⟨ret_int (by rw [← HN.out, List.take_length]), rfl⟩
end Go.Proofs.Ytachijliaedndaa

/- yPower: 4 to a number of pairs. -/
namespace Go.Proofs.Ytachijliaedndaa
open Go.RowKit
set_option linter.unusedVariables false
theorem pow4_bd {k : Nat} (h : k ≤ 15) : 0 ≤ (4 : Int) ^ k ∧ (4 : Int) ^ k ≤ 1073741824 := by
  have h1 : (4 : Nat) ^ k ≤ 4 ^ 15 := Nat.pow_le_pow_right (by omega) h
  have h3 : (4 : Nat) ^ 15 = 1073741824 := by decide
  have h4 : ((4 ^ k : Nat) : Int) = (4 : Int) ^ k := by simp
  rw [← h4]
  generalize (4 : Nat) ^ k = q at *
  rw [h3] at h1
  omega
set_option maxHeartbeats 800000 in
theorem yPower_any (n : Nat) (w : World) (hn : n ≤ 15) : Calls Try.prog 73 #[.int .i64 4, .int .i64 (n : Int)] w fun e w' => e = .returned (.int .i64 ((4 : Int) ^ n)) ∧ w = w' := by
  go_enter Try.func73, Try.ntmps73
  go_wp2_with fail
  go_loop [1, 5] (fun m o => ∃ k : Nat, k ≤ n ∧ m = .int .i64 ((n : Int) - k) ∧ o = .int .i64 ((4 : Int) ^ k)) (fun m _ => (intOf m).toNat)
  case atStart => exact ⟨0, Nat.zero_le _, by go_num, by rw [Int.pow_zero]⟩
  case round =>
    obtain ⟨k, hk, rfl, rfl⟩ := hrel
    by_cases hlt : k < n
    · have b1 := pow4_bd (k := k) (by omega)
      have b2 := pow4_bd (k := k + 1) (by omega)
      rw [Int.pow_succ] at b2
      have HP : Hid ((4 : Int) ^ (k + 1) = (4 : Int) ^ k * 4) := Lib.hid (Int.pow_succ _ _)
      generalize (4 : Int) ^ k = p at *
      have i1 : 0 < (n : Int) - (k : Int) := by omega
      have HM : Hid ((n : Int) - (k : Int) - 1 = (n : Int) - ((k + 1 : Nat) : Int)) := Lib.hid (by omega)
      go_wp2_with fail
      go_round
      case rel => exact ⟨k + 1, by omega, by rw [HM.out], by rw [HP.out]⟩
      case measure => simp [intOf]; omega
    · obtain rfl : k = n := by omega
      have i1 : ¬ 0 < (k : Int) - (k : Int) := by omega
      go_wp2_with fail
      go_ret
      exact ⟨rfl, rfl⟩
end Go.Proofs.Ytachijliaedndaa
