/- The program's ordersOf. -/
import Derived.Test.YtnlcainfkchieaaOrders
import Derived.Test.YtnlcainfkchieaaCounts
import Derived.Test.YtnlcainfkchieaaInList
namespace Go.Proofs.Ytnlcainfkchieaa
open Go.RowKit
set_option linter.unusedVariables false
set_option maxHeartbeats 2000000 in
theorem ordersOf_any (v : Value) (xs : List Int) (w : World) (h : RInts w v xs) (hl : xs.length ≤ 1048576) (hb : ∀ k, k < xs.length → 0 ≤ xs.getD k 0) (hc : ∀ k, k ≤ xs.length → (cts xs k).length ≤ 16) :
    Calls Try.prog 41 #[v] w fun e w' => e = .returned (.int .i64 ((ordN xs : Nat) : Int)) ∧ w = w' := by
  obtain ⟨A0, cap, rfl⟩ := h.shape
  have H := Lib.hid h
  have HB := Lib.hid hb
  have HL := Lib.hid hc
  have HO : Hid (ords xs xs.length = ordN xs) := Lib.hid rfl
  clear h hb hc
  generalize ordN xs = O at *
  go_enter Try.func41, Try.ntmps41
  go_wp2
  go_loop [3, 4, 6, 7, 8, 11] (fun n p q1 q2 q3 i => ∃ k : Nat, k ≤ xs.length ∧ i = .int .i64 (k : Int) ∧ ∃ P N : Nat, p = .int .i64 (P : Int) ∧ n = .int .i64 (N : Int) ∧ P = ords xs k ∧ N = (cts xs k).length) (fun _ _ _ _ _ i => xs.length - (intOf i).toNat)
  case atStart => exact ⟨0, by omega, rfl, 1, 0, rfl, rfl, rfl, rfl⟩
  case round =>
    obtain ⟨k, hk, rfl, P, N, rfl, rfl, hP, hNN⟩ := hrel
    by_cases hlt : k < xs.length
    · obtain ⟨g, o, cc, hv, hg, hcells⟩ := H.out.cells (by omega)
      have hA : A0 = some ⟨g, o, none⟩ := by injection hv
      subst hA
      clear hv
      have e1 := hcells k hlt
      clear hcells
      have hx := HB.out k hlt
      have l1 := HL.out (k + 1) (by omega)
      have hL1 := cts_len xs k
      have hO := ords_bd l1
      have hO1 : ords xs (k + 1) = ords xs k * chs (cts xs (k + 1)).length (xs.getD k 0).toNat := rfl
      generalize xs.getD k 0 = x at *
      obtain ⟨n, rfl⟩ := Int.eq_ofNat_of_zero_le hx
      rw [Int.toNat_natCast] at hL1 hO1
      rw [hL1, ← hNN, ← hP] at hO1
      have HO1 := Lib.hid hO1
      have HN1 : Hid (N + n = (cts xs (k + 1)).length) := by unfold Hid; omega
      have hn1 : N + n ≤ 16 := by omega
      have hO2 : P * chs (N + n) n ≤ 20922789888000 := by rw [← hO1]; exact hO
      have HC : Hid (∀ w, Calls Try.prog 61 #[.int .i64 (N : Int), .int .i64 (n : Int)] w fun e w' => e = .returned (.tuple #[.int .i64 (chs (N + n) n : Nat), .bool true]) ∧ w = w') := Lib.hid fun w => by
        have := count_yes N n w (by omega)
        rwa [Nat.add_comm n N, chs_symm] at this
      have hcs := chs_small40 (N + n) n (by omega)
      have hO3 : (P : Int) * (chs (N + n) n : Int) ≤ 20922789888000 := by
        rw [← Int.natCast_mul]
        exact Int.ofNat_le.2 hO2
      have hO4 : (0 : Int) ≤ (P : Int) * (chs (N + n) n : Int) := by
        rw [← Int.natCast_mul]
        exact Int.natCast_nonneg _
      clear hL1 hO hO1 hP hNN l1 hO2
      generalize chs (N + n) n = C at *
      go_wp2_with (go_at_call 61; refine (HC.out _).mono ?_; rintro e w1 ⟨rfl, rfl⟩)
      go_round
      case rel => exact ⟨k + 1, by omega, by go_num, P * C, N + n, by go_num, by go_num, HO1.out.symm, HN1.out⟩
      case measure => first | (simp [intOf]; done) | (simp [intOf]; omega)
    · have hk2 : k = xs.length := by omega
      subst hk2
      have HP : Hid (P = O) := Lib.hid (hP.trans HO.out)
      have hP2 := HP.out
      subst hP2
      clear hP hNN
      go_wp2_with fail
      go_ret
      exact ⟨rfl, rfl⟩
end Go.Proofs.Ytnlcainfkchieaa
