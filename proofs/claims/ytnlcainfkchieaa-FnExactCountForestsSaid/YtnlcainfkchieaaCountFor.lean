/- CountForests. -/
import Derived.Test.YtnlcainfkchieaaOrders
namespace Go.Proofs.Ytnlcainfkchieaa
open Go.RowKit
set_option linter.unusedVariables false
theorem cfV_no {xs : List Int} (h : ctOk xs = false) : cfV xs = 0 := by unfold cfV; rw [h]; rfl
theorem cfV_low {xs : List Int} (h : ctOk xs = true) (h1 : exc (cntL xs) < 1) : cfV xs = 0 := by unfold cfV; rw [h, if_pos rfl, if_pos h1]
theorem cfV_yes {xs : List Int} (h : ctOk xs = true) (h1 : ¬ exc (cntL xs) < 1) : cfV xs = (ordN xs : Int) * exc (cntL xs) / ((cntL xs).length : Int) := by unfold cfV; rw [h, if_pos rfl, if_neg h1]
theorem ctV_yes {xs : List Int} (h : ctOk xs = true) : ctV xs = cntL xs := by unfold ctV; rw [h]; rfl
theorem exc_bd {xs : List Int} (h : degB xs = true) : -240 ≤ exc xs ∧ exc xs ≤ 16 := by
  have hn := (degB_of h).1
  have hb := sumT_bd h xs.length (Nat.le_refl _)
  unfold exc
  omega
set_option maxHeartbeats 800000 in
theorem specCountForests_ret (v : Value) (xs : List Int) (w : World) (h : RInts w v xs) (hl : xs.length ≤ 1048576) :
    Calls Try.prog 11 #[v] w (Ret w (.tuple #[.int .i64 (cfV xs), .bool (ctOk xs)])) := by
  have H := Lib.hid h
  have HC := Lib.hid (cyCounts_ret v xs w h hl)
  clear h
  rcases Bool.eq_false_or_eq_true (ctOk xs) with hok | hok
  · obtain ⟨hB, h16, hp⟩ := ctOk_of hok
    have hd := cntL_deg hok
    have hr := exc_bd hd
    have hO : ordN xs ≤ 20922789888000 := ords_bd (k := xs.length) h16
    have HX : Hid (∀ w B v1, IRow w B v1 (cntL xs) → Calls Try.prog 38 #[v1] w fun e w' => e = .returned (.int .i64 (exc (cntL xs))) ∧ w = w') := Lib.hid fun w B v1 h => cyExcess_any v1 _ w (RInts.of_row h) hd
    have HO : Hid (∀ w, RInts w v xs → Calls Try.prog 39 #[v] w (Ret w (.int .i64 (ordN xs : Nat)))) := Lib.hid fun w h => cyOrders_ret v xs w h hok
    rw [ctV_yes hok] at HC
    by_cases h1 : exc (cntL xs) < 1
    · rw [cfV_low hok h1, hok]
      rw [hok] at HC
      clear hd hB hok
      generalize exc (cntL xs) = r at *
      go_enter Try.func11, Try.ntmps11
      go_wp2_with (first | (go_at_call 37; refine HC.out.mono ?_; rintro e w1 ⟨v1, rfl, hr1, hb1⟩) | (go_at_call 38; refine (HX.out _ _ _ hr1).mono ?_; rintro e w' ⟨rfl, rfl⟩))
      go_ret2
      exact ⟨rfl, hb1⟩
    · rw [cfV_yes hok h1, hok]
      rw [hok] at HC
      clear hd hB hok
      generalize cntL xs = L at *
      generalize exc L = r at *
      generalize ordN xs = P at *
      obtain ⟨R, rfl⟩ := Int.eq_ofNat_of_zero_le (show 0 ≤ r by omega)
      have hm : P * R ≤ 20922789888000 * 16 := Nat.mul_le_mul hO (by omega)
      have m1 : (P : Int) * (R : Int) ≤ 334764638208000 := by
        rw [← Int.natCast_mul]
        exact Int.ofNat_le.2 hm
      have m2 : (0 : Int) ≤ (P : Int) * (R : Int) := by
        rw [← Int.natCast_mul]
        exact Int.natCast_nonneg _
      have m3 : ((L.length : Int) == 0) = false := beq_eq_false_iff_ne.2 (by omega)
      have HQ : Hid (((P : Int) * (R : Int)).tdiv (L.length : Int) = (P : Int) * (R : Int) / (L.length : Int)) := Lib.hid (Int.tdiv_eq_ediv_of_nonneg m2)
      clear hm
      go_enter Try.func11, Try.ntmps11
      go_wp2_with (first | (go_at_call 37; refine HC.out.mono ?_; rintro e w1 ⟨v1, rfl, hr1, hb1⟩; obtain ⟨A1, c1, rfl⟩ := hr1.shape) | (go_at_call 38; refine (HX.out _ _ _ hr1).mono ?_; rintro e w' ⟨rfl, rfl⟩) | (go_at_call 39; refine (HO.out _ (H.out.below hb1)).mono ?_; rintro e w2 ⟨rfl, hb2⟩))
      go_ret2
      exact ⟨rfl, hb1.trans (hb2.mono hb1.size)⟩
  · rw [cfV_no hok, hok]
    rw [hok] at HC
    clear hok
    go_enter Try.func11, Try.ntmps11
    go_wp2_with (go_at_call 37; refine HC.out.mono ?_; rintro e w1 ⟨v1, rfl, hr1, hb1⟩)
    go_ret2
    exact ⟨rfl, hb1⟩
end Go.Proofs.Ytnlcainfkchieaa
