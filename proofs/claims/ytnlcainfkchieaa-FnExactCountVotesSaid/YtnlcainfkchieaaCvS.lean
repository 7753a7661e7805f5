/- CountVotes: both sides. -/
import Derived.Test.YtnlcainfkchieaaResI
import Derived.Test.YtnlcainfkchieaaOrdI
namespace Go.Proofs.Ytnlcainfkchieaa
open Go.RowKit
set_option linter.unusedVariables false
theorem res_cts {xs : List Int} (h : resB xs = true) : (∀ k, k < xs.length → 0 ≤ xs.getD k 0) ∧ ∀ k, k ≤ xs.length → (cts xs k).length ≤ 16 := by
  obtain ⟨a, b, c, d, rfl, h1, h2, h3, h4⟩ := (resB_iff xs).1 h
  refine ⟨fun k hk => ?_, fun k hk => ?_⟩
  · have : k = 0 ∨ k = 1 ∨ k = 2 ∨ k = 3 := by simp at hk; omega
    rcases this with e | e | e | e <;> subst e <;> simp
  · have e0 : (cts [(a : Int), b, c, d] 0).length = 0 := rfl
    have e1 := cts_len [(a : Int), b, c, d] 0
    have e2 := cts_len [(a : Int), b, c, d] 1
    have e3 := cts_len [(a : Int), b, c, d] 2
    have e4 := cts_len [(a : Int), b, c, d] 3
    simp at e1 e2 e3 e4
    have : k = 0 ∨ k = 1 ∨ k = 2 ∨ k = 3 ∨ k = 4 := by simp at hk; omega
    rcases this with e | e | e | e | e <;> subst e <;> omega
def cvN (xs : List Int) : Int := if resB xs = true then ((ordN xs : Nat) : Int) else 0
theorem countVotes_ret (v : Value) (xs : List Int) (w : World) (h : RInts w v xs) (hl : xs.length ≤ 1048576) : Calls Try.prog 26 #[v] w (Ret w (.tuple #[.int .i64 (cvN xs), .bool (resB xs)])) := by
  have HV := Lib.hid (isResult_any v xs w h hl)
  have H := Lib.hid h
  unfold cvN
  rcases Bool.eq_false_or_eq_true (resB xs) with hr | hr
  · have HO : Hid (∀ w1, Below w.heap.size w w1 → Calls Try.prog 41 #[v] w1 fun e w' => e = .returned (.int .i64 ((ordN xs : Nat) : Int)) ∧ w1 = w') := Lib.hid fun w1 hb => ordersOf_any v xs w1 (H.out.below hb) hl (res_cts hr).1 (res_cts hr).2
    rw [hr] at HV
    rw [hr, if_pos rfl]
    obtain ⟨A0, cap, rfl⟩ := h.shape
    clear h hr
    generalize ordN xs = O at *
    go_enter Try.func26, Try.ntmps26
    go_wp2_with (first | (go_at_call 16; refine HV.out.mono ?_; rintro e w1 ⟨rfl, hb1⟩) | (go_at_call 41; refine (HO.out _ hb1).mono ?_; rintro e w2 ⟨rfl, rfl⟩))
    go_ret2
    exact ⟨rfl, hb1⟩
  · rw [hr] at HV
    rw [hr]
    obtain ⟨A0, cap, rfl⟩ := h.shape
    clear h hr
    go_enter Try.func26, Try.ntmps26
    go_wp2_with (go_at_call 16; refine HV.out.mono ?_; rintro e w1 ⟨rfl, hb1⟩)
    go_ret2
    exact ⟨rfl, hb1⟩
set_option maxHeartbeats 2000000 in
theorem specCountVotes_ret (v : Value) (xs : List Int) (w : World) (h : RInts w v xs) (hl : xs.length ≤ 1048576) : Calls Try.prog 25 #[v] w (Ret w (.tuple #[.int .i64 (cvN xs), .bool (resB xs)])) := by
  have HV := Lib.hid (voResult_any v xs w h hl)
  have H := Lib.hid h
  unfold cvN
  rcases Bool.eq_false_or_eq_true (resB xs) with hr | hr
  · have HB := Lib.hid (res_cts hr).1
    have HL := Lib.hid (res_cts hr).2
    have HO : Hid (ords xs xs.length = ordN xs) := Lib.hid rfl
    rw [hr] at HV
    rw [hr, if_pos rfl]
    obtain ⟨A0, cap, rfl⟩ := h.shape
    clear h hr
    generalize ordN xs = O at *
    go_enter Try.func25, Try.ntmps25
    go_wp2_with (go_at_call 42; refine HV.out.mono ?_; rintro e w1 ⟨rfl, hb1⟩)
    go_loopw [4, 5, 7, 13] (fun p n q i wr => ∃ k : Nat, k ≤ xs.length ∧ i = .int .i64 (k : Int) ∧ (∃ P N : Nat, p = .int .i64 (P : Int) ∧ n = .int .i64 (N : Int) ∧ P = ords xs k ∧ N = (cts xs k).length) ∧ Below w.heap.size w wr) (fun _ _ _ i _ => xs.length - (intOf i).toNat)
    case atStart => exact ⟨0, by omega, rfl, ⟨1, 0, rfl, rfl, rfl, rfl⟩, hb1⟩
    case round =>
      obtain ⟨k, hk, rfl, ⟨P, N, rfl, rfl, hP, hNN⟩, hb⟩ := hrel
      by_cases hlt : k < xs.length
      · obtain ⟨g, o, cc, hv, hg, hcells⟩ := (H.out.below hb).cells (by omega)
        have hA : A0 = some ⟨g, o, none⟩ := by injection hv
        subst hA
        clear hv
        have e1 := hcells k hlt
        clear hcells
        have hx := HB.out k hlt
        have l1 := HL.out (k + 1) (by omega)
        have hL1 := cts_len xs k
        have hO := ords_bd l1
        have hO1 : ords xs (k + 1) = ords xs k * chs (cts xs (k + 1)).length (xs.getD k 0).toNat := rfl
        generalize xs.getD k 0 = x at *
        obtain ⟨n, rfl⟩ := Int.eq_ofNat_of_zero_le hx
        rw [Int.toNat_natCast] at hL1 hO1
        rw [hL1, ← hNN, ← hP] at hO1
        have HO1 := Lib.hid hO1
        have HN1 : Hid (N + n = (cts xs (k + 1)).length) := by unfold Hid; omega
        have hn1 : N + n ≤ 16 := by omega
        have hO2 : P * chs (N + n) n ≤ 20922789888000 := by rw [← hO1]; exact hO
        have HC : Hid (∀ w, Calls Try.prog 49 #[.int .i64 ((N : Int) + (n : Int)), .int .i64 (n : Int)] w (Ret w (.int .i64 (chs (N + n) n : Nat)))) := Lib.hid fun w => by
          have := choose_yes (N + n) n w (by omega) (by omega)
          rwa [Int.natCast_add] at this
        have hcs := chs_small40 (N + n) n (by omega)
        have hO3 : (P : Int) * (chs (N + n) n : Int) ≤ 20922789888000 := by
          rw [← Int.natCast_mul]
          exact Int.ofNat_le.2 hO2
        have hO4 : (0 : Int) ≤ (P : Int) * (chs (N + n) n : Int) := by
          rw [← Int.natCast_mul]
          exact Int.natCast_nonneg _
        have hsz := hb.size
        clear hL1 hO hO1 hP hNN l1 hO2
        generalize chs (N + n) n = C at *
        go_wp2_with (go_at_call 49; refine (HC.out _).mono ?_; rintro e w2 ⟨rfl, hb2⟩)
        go_roundw
        case rel => exact ⟨k + 1, by omega, by go_num, ⟨P * C, N + n, by go_num, by go_num, HO1.out.symm, HN1.out⟩, hb.trans (hb2.mono hsz)⟩
        case measure => first | (simp [intOf]; done) | (simp [intOf]; omega)
      · have hk2 : k = xs.length := by omega
        subst hk2
        have HP : Hid (P = O) := Lib.hid (hP.trans HO.out)
        have hP2 := HP.out
        subst hP2
        clear hP hNN
        go_wp2_with fail
        go_ret2
        exact ⟨rfl, hb⟩
  · rw [hr] at HV
    rw [hr]
    obtain ⟨A0, cap, rfl⟩ := h.shape
    clear h hr
    go_enter Try.func25, Try.ntmps25
    go_wp2_with (go_at_call 42; refine HV.out.mono ?_; rintro e w1 ⟨rfl, hb1⟩)
    go_ret2
    exact ⟨rfl, hb1⟩
end Go.Proofs.Ytnlcainfkchieaa
