/- NeverBehindOfRank. -/
import Derived.Test.YtcnggafbdjhagaaPathB2
import Derived.Test.YtcnggafbdjhagaaNewBal
import Derived.Test.YtcnggafbdjhagaaNbMath
import Derived.Test.YtcnggafbdjhagaaRest
import Derived.Test.YtcnggafbdjhagaaBalCount
namespace Go.Proofs.Ytcnggafbdjhagaa
open Go.RowKit
theorem nbOk_no {a b k r : Int} (h : allOk a b k = false) : nbOk a b k r = false := by
  unfold nbOk; unfold allOk at h; rw [h]; rfl
theorem nbS_no {a b k r : Int} (h : nbOk a b k r = false) : nbS a b k r = strOf [] := by unfold nbS; rw [h]; rfl
set_option maxHeartbeats 400000 in
theorem nbRank_ret (a b k r : Int) (w : World) : Calls Try.prog 51 #[.int .i64 a, .int .i64 b, .int .i64 k, .int .i64 r] w (Ret w (.tuple #[.string (nbS a b k r), .bool (nbOk a b k r)])) := by
  have HC : Hid (∀ w, Calls Try.prog 65 #[.int .i64 a, .int .i64 b, .int .i64 k] w fun e w' => e = .returned (.tuple #[.int .i64 (allV a b k), .bool (allOk a b k)]) ∧ w = w') := Lib.hid fun w => countAll_ret a b k w
  rcases Bool.eq_false_or_eq_true (allOk a b k) with hp | hp
  · have hA := allOk_of hp
    obtain ⟨h1, h2, h3, h4, h5⟩ := hA
    obtain ⟨x, rfl⟩ := Int.eq_ofNat_of_zero_le h1
    obtain ⟨y, rfl⟩ := Int.eq_ofNat_of_zero_le h2
    have hxy : x + y ≤ 40 := by omega
    rw [nbOk_rk ⟨h4, h5⟩ hxy, nbS_rk ⟨h4, h5⟩ hxy]
    have HP : Hid (∀ mb w, MapOk w mb (WV x y k 0) → Calls Try.prog 79 #[.agg #[.int .i64 x, .int .i64 y, .int .i64 k, .int .i64 0, .map (some mb)], .int .i64 r] w (BalRet w mb (WV x y k 0) (.tuple #[.string (rkS x y k 0 r), .bool (rkOk x y k 0 r)]))) :=
      Lib.hid fun mb w hm => pathBal_ret x y mb k 0 r w hxy ⟨h4, h5⟩ hm
    have HB : Hid (∀ w, Calls Try.prog 71 #[.int .i64 x, .int .i64 y, .int .i64 k, .int .i64 0] w fun e w' => ∃ mb, e = .returned (.agg #[.int .i64 x, .int .i64 y, .int .i64 k, .int .i64 0, .map (some mb)]) ∧ w.heap.size ≤ mb ∧ MapOk w' mb (WV x y k 0) ∧ Below w.heap.size w w') :=
      Lib.hid fun w => newBallot_any x y k 0 w _
    generalize rkS x y k 0 r = s at *
    generalize rkOk x y k 0 r = ok at *
    rw [hp] at HC
    clear hp h1 h2 h3
    go_enter Try.func51, Try.ntmps51
    go_wp2_with (first | (go_at_call 65; refine (HC.out _).mono ?_; rintro e w' ⟨rfl, rfl⟩) | (go_at_call 71; refine (HB.out _).mono ?_; rintro e w1 ⟨mb, rfl, hmb, hm1, hb1⟩) | (go_at_call 79; refine (HP.out _ _ hm1).mono ?_; rintro e w2 ⟨rfl, hm2, hg2⟩))
    go_ret2
    exact ⟨rfl, hb1.grown hg2 hb1.size (fun q hq => by injection hq with hq; omega)⟩
  · rw [nbS_no (nbOk_no hp), nbOk_no hp]
    rw [hp] at HC
    go_enter Try.func51, Try.ntmps51
    go_wp2_with (go_at_call 65; refine (HC.out _).mono ?_; rintro e w' ⟨rfl, rfl⟩)
    go_ret2
    exact ⟨rfl, Below.refl _ _⟩
end Go.Proofs.Ytcnggafbdjhagaa
