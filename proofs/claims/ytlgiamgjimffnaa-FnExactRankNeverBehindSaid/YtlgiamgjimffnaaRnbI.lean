/- RankNeverBehind. -/
import Derived.Test.YtlgiamgjimffnaaRnb
namespace Go.Proofs.Ytlgiamgjimffnaa
open Go.RowKit
def rnV (s : ByteArray) (k : Int) : Int := if noneB s k 0 then rnbV s k else 0
theorem noneB_bal {s : ByteArray} {k : Int} (h : noneB s k 0 = true) : balOk s k = true := by
  unfold noneB at h
  rw [Bool.and_eq_true] at h
  exact h.1
theorem noneB_no {s : ByteArray} {k : Int} (h : balOk s k = false) : noneB s k 0 = false := by unfold noneB; rw [h]; rfl
set_option maxHeartbeats 400000 in
theorem rnb_ret (s : ByteArray) (k : Int) (w : World) (hs : s.size ≤ maxLen) : Calls Try.prog 39 #[.string s, .int .i64 k] w (Ret w (.tuple #[.int .i64 (rnV s k), .bool (noneB s k 0)])) := by
  have HI : Hid (∀ w, Calls Try.prog 28 #[.string s, .int .i64 k] w (Ret w (.tuple #[.bool (noneB s k 0), .bool (balOk s k)]))) := Lib.hid fun w => isNeverBehind_ret s k w hs
  unfold rnV
  rcases Bool.eq_false_or_eq_true (noneB s k 0) with hn | hn
  · have hp := noneB_bal hn
    obtain ⟨hpath, hk1, hk5⟩ := balOk_of hp
    have h40 := ((pathB_iff s).1 hpath).1
    have hcu := cntU_le s.data.toList
    have hl : s.data.toList.length = s.size := by simp
    rw [hn, hp] at HI
    rw [hn, if_pos rfl]
    have HC : Hid (∀ w, Calls Try.prog 82 #[.string s, .string ⟨#[85]⟩] w fun e w' => e = .returned (.int .i64 (cntU s.data.toList)) ∧ w = w') := Lib.hid fun w => countU_any s w
    have HB : Hid (∀ w, Calls Try.prog 83 #[.int .i64 (cntU s.data.toList), .int .i64 ((s.size : Int) - (cntU s.data.toList : Nat)), .int .i64 k, .int .i64 0] w fun e w' => ∃ mb, e = .returned (.agg #[.int .i64 (cntU s.data.toList), .int .i64 ((s.size - cntU s.data.toList : Nat) : Int), .int .i64 k, .int .i64 0, .map (some mb)]) ∧ w.heap.size ≤ mb ∧ MapOk w' mb (WV (cntU s.data.toList) (s.size - cntU s.data.toList) k 0) ∧ Below w.heap.size w w') :=
      Lib.hid fun w => by
        have := newBallot_any (cntU s.data.toList) ((s.size : Int) - (cntU s.data.toList : Nat)) k 0 w (WV (cntU s.data.toList) (s.size - cntU s.data.toList) k 0)
        rw [show (s.size : Int) - (cntU s.data.toList : Nat) = ((s.size - cntU s.data.toList : Nat) : Int) by omega] at this ⊢
        exact this
    have HR : Hid (∀ mb w, MapOk w mb (WV (cntU s.data.toList) (s.size - cntU s.data.toList) k 0) → Calls Try.prog 84 #[.agg #[.int .i64 (cntU s.data.toList), .int .i64 ((s.size - cntU s.data.toList : Nat) : Int), .int .i64 k, .int .i64 0, .map (some mb)], .string s] w (BalRet2 w mb (WV (cntU s.data.toList) (s.size - cntU s.data.toList) k 0) (.int .i64 (rnbV s k)))) :=
      Lib.hid fun mb w hm => rankOf_any _ _ mb k 0 s w (by omega) ⟨hk1, hk5⟩ hm h40 rfl rfl
    have hx : cntU s.data.toList ≤ s.size := by omega
    generalize rnbV s k = R at *
    generalize hy : s.size - cntU s.data.toList = y at *
    generalize cntU s.data.toList = x at *
    clear hy hcu hl hpath hp hn
    go_enter Try.func39, Try.ntmps39
    go_wp2_with (first | (go_at_call 28; refine (HI.out _).mono ?_; rintro e w1 ⟨rfl, hb1⟩) | (go_at_call 82; refine (HC.out _).mono ?_; rintro e w' ⟨rfl, rfl⟩) | (go_at_call 83; refine (HB.out _).mono ?_; rintro e w2 ⟨mb, rfl, hmb, hm2, hb2⟩) | (go_at_call 84; refine (HR.out _ _ hm2).mono ?_; rintro e w3 ⟨rfl, hm3, hg3⟩))
    go_ret2
    exact ⟨rfl, hb1.trans ((hb2.mono hb1.size).grown hg3 (Nat.le_trans hb1.size hb2.size) (fun q hq => by injection hq with hq; have := hb1.size; omega))⟩
  · rw [hn] at HI
    rw [hn]
    rcases Bool.eq_false_or_eq_true (balOk s k) with hp | hp
    all_goals
      rw [hp] at HI
      go_enter Try.func39, Try.ntmps39
      go_wp2_with (go_at_call 28; refine (HI.out _).mono ?_; rintro e w1 ⟨rfl, hb1⟩)
      go_ret2
      exact ⟨rfl, hb1⟩
end Go.Proofs.Ytlgiamgjimffnaa
