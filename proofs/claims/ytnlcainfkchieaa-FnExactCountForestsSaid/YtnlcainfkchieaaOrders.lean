/- cyOrders, CountForests. -/
import Derived.Test.YtnlcainfkchieaaCnts
import Derived.Test.YtnlcainfkchieaaChoose
namespace Go.Proofs.Ytnlcainfkchieaa
open Go.RowKit
set_option linter.unusedVariables false
def fct : Nat → Nat
  | 0 => 1
  | n + 1 => (n + 1) * fct n
theorem chs_fct (n : Nat) : ∀ k, chs (n + k) k * fct n ≤ fct (n + k)
  | 0 => by rw [chs_zero, Nat.one_mul]; exact Nat.le_refl _
  | k + 1 => by
    have h1 := chs_fct n k
    have h2 := chs_absorb (n + k) k
    have h3 : chs (n + (k + 1)) (k + 1) ≤ (n + k + 1) * chs (n + k) k := by
      rw [← Nat.add_assoc, ← h2]
      exact Nat.le_mul_of_pos_left _ (by omega)
    have h4 := Nat.mul_le_mul_right (fct n) h3
    rw [Nat.mul_assoc] at h4
    refine Nat.le_trans h4 ?_
    rw [← Nat.add_assoc, fct]
    exact Nat.mul_le_mul_left _ h1
theorem fct_mono (n : Nat) : ∀ k, fct n ≤ fct (n + k)
  | 0 => Nat.le_refl _
  | k + 1 => by rw [← Nat.add_assoc, fct]; exact Nat.le_trans (fct_mono n k) (Nat.le_mul_of_pos_left _ (by omega))
def ords (xs : List Int) : Nat → Nat
  | 0 => 1
  | k + 1 => ords xs k * chs (cts xs (k + 1)).length (xs.getD k 0).toNat
theorem cts_len (xs : List Int) (k : Nat) : (cts xs (k + 1)).length = (cts xs k).length + (xs.getD k 0).toNat := by
  rw [cts, List.length_append, List.length_replicate]
theorem ords_fct (xs : List Int) : ∀ k, ords xs k ≤ fct (cts xs k).length
  | 0 => Nat.le_refl _
  | k + 1 => by
    rw [ords, cts_len]
    refine Nat.le_trans (Nat.mul_le_mul_right _ (ords_fct xs k)) ?_
    rw [Nat.mul_comm]
    exact chs_fct _ _
theorem ords_bd {xs : List Int} {k : Nat} (h : (cts xs k).length ≤ 16) : ords xs k ≤ 20922789888000 := by
  have h1 := ords_fct xs k
  have h2 := fct_mono (cts xs k).length (16 - (cts xs k).length)
  rw [show (cts xs k).length + (16 - (cts xs k).length) = 16 by omega] at h2
  have h3 : fct 16 = 20922789888000 := by decide
  omega
theorem ctOk_of {xs : List Int} (h : ctOk xs = true) : ctB xs = true ∧ (cntL xs).length ≤ 16 ∧ 0 < (cntL xs).length := by
  unfold ctOk at h
  simpa using h
def ordN (xs : List Int) : Nat := ords xs xs.length
set_option maxHeartbeats 1600000 in
theorem cyOrders_ret (v : Value) (xs : List Int) (w : World) (h : RInts w v xs) (hok : ctOk xs = true) :
    Calls Try.prog 39 #[v] w (Ret w (.int .i64 (ordN xs : Nat))) := by
  obtain ⟨A0, cap, rfl⟩ := h.shape
  have H := Lib.hid h
  clear h
  obtain ⟨hB, h16, hp⟩ := ctOk_of hok
  obtain ⟨h17, hb⟩ := ctB_at hB
  have HB := Lib.hid hb
  have HL : Hid (∀ k, k ≤ xs.length → (cts xs k).length ≤ 16) := Lib.hid fun k hk => by
    have := cts_mono xs k (xs.length - k)
    rw [show k + (xs.length - k) = xs.length by omega] at this
    exact Nat.le_trans this h16
  clear hok hB h16 hp hb
  go_enter Try.func39, Try.ntmps39
  go_wp2_with fail
  go_loopw [3, 4, 9] (fun p n i wr => ∃ k : Nat, k ≤ xs.length ∧ i = .int .i64 (k : Int) ∧ ∃ P N : Nat, p = .int .i64 (P : Int) ∧ n = .int .i64 (N : Int) ∧ P = ords xs k ∧ N = (cts xs k).length ∧ Below w.heap.size w wr) (fun _ _ i _ => xs.length - (intOf i).toNat)
  case atStart => exact ⟨0, by omega, rfl, 1, 0, rfl, rfl, rfl, rfl, Below.refl _ _⟩
  case round =>
    obtain ⟨k, hk, rfl, P, N, rfl, rfl, hP, hN, hb⟩ := hrel
    by_cases hlt : k < xs.length
    · obtain ⟨g, o, cc, hv, hg, hcells⟩ := H.out.cells (by omega)
      have hA : A0 = some ⟨g, o, none⟩ := by injection hv
      subst hA
      clear hv
      have e1 : wr.cell? ⟨g, o + k, none⟩ = some (.int .i64 (xs.getD k 0)) := (hb.cell (p := ⟨g, o + k, none⟩) hg).trans (hcells k hlt)
      clear hcells
      have hx := HB.out k hlt
      have l1 := HL.out (k + 1) (by omega)
      have hL1 := cts_len xs k
      have hO := ords_bd l1
      have hO1 : ords xs (k + 1) = ords xs k * chs (cts xs (k + 1)).length (xs.getD k 0).toNat := rfl
      generalize xs.getD k 0 = x at *
      obtain ⟨n, rfl⟩ := Int.eq_ofNat_of_zero_le hx.1
      rw [Int.toNat_natCast] at hL1 hO1
      rw [hL1, ← hN, ← hP] at hO1
      have HO1 := Lib.hid hO1
      have HN1 : Hid (N + n = (cts xs (k + 1)).length) := by unfold Hid; omega
      have hn1 : N + n ≤ 16 := by omega
      have hO2 : P * chs (N + n) n ≤ 20922789888000 := by rw [← hO1]; exact hO
      have HC : Hid (∀ w, Calls Try.prog 49 #[.int .i64 ((N : Int) + (n : Int)), .int .i64 (n : Int)] w (Ret w (.int .i64 (chs (N + n) n : Nat)))) := Lib.hid fun w => by
        have := choose_yes (N + n) n w (by omega) (by omega)
        rwa [Int.natCast_add] at this
      have hcs := chs_small40 (N + n) n (by omega)
      have hO3 : (P : Int) * (chs (N + n) n : Int) ≤ 20922789888000 := by
        rw [← Int.natCast_mul]
        exact Int.ofNat_le.2 hO2
      have hO4 : (0 : Int) ≤ (P : Int) * (chs (N + n) n : Int) := by
        rw [← Int.natCast_mul]
        exact Int.natCast_nonneg _
      clear hL1 hO hO1 hP hN l1 hO2
      have hsz := hb.size
      generalize chs (N + n) n = C at *
      go_wp2_with (go_at_call 49; refine (HC.out _).mono ?_; rintro e w1 ⟨rfl, hb1⟩)
      go_roundw
      case rel => exact ⟨k + 1, by omega, by go_num, P * C, N + n, by go_num, by go_num, HO1.out.symm, HN1.out, hb.trans (hb1.mono hsz)⟩
      case measure => first | (simp [intOf]; done) | (simp [intOf]; omega)
    · have hk2 : k = xs.length := by omega
      subst hk2
      have HP : Hid (P = ordN xs) := Lib.hid hP
      clear hP hN
      go_wp2_with fail
      go_ret
      rw [HP.out]
      exact ⟨rfl, hb⟩
def cfV (xs : List Int) : Int := if ctOk xs then (if exc (cntL xs) < 1 then 0 else (ordN xs : Int) * exc (cntL xs) / ((cntL xs).length : Int)) else 0
theorem cntL_deg {xs : List Int} (h : ctOk xs = true) : degB (cntL xs) = true := by
  obtain ⟨hB, h16, hp⟩ := ctOk_of h
  obtain ⟨h17, hb⟩ := ctB_at hB
  have key : ∀ k, k ≤ xs.length → ∀ x ∈ cts xs k, (0 : Int) ≤ x ∧ x ≤ 16 := by
    intro k
    induction k with
    | zero => intro _ x hx; simp [cts] at hx
    | succ k ih =>
      intro hk x hx
      rw [cts, List.mem_append] at hx
      rcases hx with hx | hx
      · exact ih (by omega) x hx
      · have := List.eq_of_mem_replicate hx
        omega
  unfold degB allB inBd
  rw [Bool.and_eq_true, List.all_eq_true]
  refine ⟨by simp; omega, fun x hx => ?_⟩
  have := key _ (Nat.le_refl _) x hx
  simp; omega
end Go.Proofs.Ytnlcainfkchieaa
