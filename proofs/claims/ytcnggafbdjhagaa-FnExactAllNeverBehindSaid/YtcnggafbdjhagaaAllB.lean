/- AllAhead, AllNeverBehind. -/
import Derived.Test.YtcnggafbdjhagaaListB
import Derived.Test.YtcnggafbdjhagaaNewBal
import Derived.Test.YtcnggafbdjhagaaLook
import Derived.Test.YtcnggafbdjhagaaBalCount
namespace Go.Proofs.Ytcnggafbdjhagaa
open Go.RowKit
def alOk (a b k l : Int) : Bool := allOk a b k && lsOk a.toNat b.toNat k l
def alV (a b k l : Int) : List ByteArray := if alOk a b k l then lsV a.toNat b.toNat k l else []
theorem alOk_no {a b k l : Int} (h : allOk a b k = false) : alOk a b k l = false := by unfold alOk; rw [h]; rfl
theorem alV_no {a b k l : Int} (h : alOk a b k l = false) : alV a b k l = [] := by unfold alV; rw [h]; rfl
theorem alOk_nat {x y : Nat} {k l : Int} (h : allOk x y k = true) : alOk x y k l = lsOk x y k l := by unfold alOk; rw [h, Bool.true_and, Int.toNat_natCast, Int.toNat_natCast]
theorem alV_nat {x y : Nat} {k l : Int} (h : allOk x y k = true) : alV x y k l = lsV x y k l := by
  unfold alV
  rw [alOk_nat h, Int.toNat_natCast, Int.toNat_natCast]
  split
  · rfl
  · rename_i h2; unfold lsV; rw [if_neg h2]
theorem alV_len (a b k l : Int) : (alV a b k l).length ≤ 1048577 := by
  unfold alV lsV
  split
  · split
    · rename_i h
      rw [byRank_len]
      unfold lsOk at h
      rw [decide_eq_true_iff] at h
      omega
    · simp
  · simp
theorem list_below {w w1 w2 : World} {mb : Nat} {V : Int → Int → Int} {ok : Bool} {xs : List ByteArray} {e : Ending} (hb : Below w.heap.size w w1) (hmb : w.heap.size ≤ mb) (h : ListRet w1 mb V ok xs e w2) : StrsRet w ok xs e w2 := by
  obtain ⟨v, h1, h2, h3, h4⟩ := h
  exact ⟨v, h1, h2.mono hb.size, hb.grown h4 hb.size (fun q hq => by injection hq with hq; omega)⟩

set_option maxHeartbeats 1000000 in
theorem allAhead_ret (a b k : Int) (w : World) : Calls Try.prog 42 #[.int .i64 a, .int .i64 b, .int .i64 k] w (StrsRet w (alOk a b k 1) (alV a b k 1)) := by
  have HC : Hid (∀ w, Calls Try.prog 65 #[.int .i64 a, .int .i64 b, .int .i64 k] w fun e w' => e = .returned (.tuple #[.int .i64 (allV a b k), .bool (allOk a b k)]) ∧ w = w') := Lib.hid fun w => countAll_ret a b k w
  rcases Bool.eq_false_or_eq_true (allOk a b k) with hp | hp
  · obtain ⟨h1, h2, h3, h4, h5⟩ := allOk_of hp
    obtain ⟨x, rfl⟩ := Int.eq_ofNat_of_zero_le h1
    obtain ⟨y, rfl⟩ := Int.eq_ofNat_of_zero_le h2
    have hxy : x + y ≤ 40 := by omega
    have HL : Hid (∀ mb w, MapOk w mb (WV x y k 1) → Calls Try.prog 72 #[.agg #[.int .i64 x, .int .i64 y, .int .i64 k, .int .i64 1, .map (some mb)]] w (ListRet w mb (WV x y k 1) (alOk x y k 1) (alV x y k 1))) :=
      Lib.hid fun mb w hm => by rw [alOk_nat hp, alV_nat hp]; exact list_any x y mb k 1 w hxy ⟨h4, h5⟩ hm
    have HB : Hid (∀ w, Calls Try.prog 71 #[.int .i64 x, .int .i64 y, .int .i64 k, .int .i64 1] w fun e w' => ∃ mb, e = .returned (.agg #[.int .i64 x, .int .i64 y, .int .i64 k, .int .i64 1, .map (some mb)]) ∧ w.heap.size ≤ mb ∧ MapOk w' mb (WV x y k 1) ∧ Below w.heap.size w w') :=
      Lib.hid fun w => newBallot_any x y k 1 w _
    generalize alV x y k 1 = L at *
    generalize alOk x y k 1 = ok at *
    rw [hp] at HC
    clear hp h1 h2 h3
    go_enter Try.func42, Try.ntmps42
    go_wp2_with (first | (go_at_call 65; refine (HC.out _).mono ?_; rintro e w' ⟨rfl, rfl⟩) | (go_at_call 71; refine (HB.out _).mono ?_; rintro e w1 ⟨mb, rfl, hmb, hm1, hb1⟩) | (go_at_call 72; refine (HL.out _ _ hm1).mono ?_; rintro e w2 ⟨v, rfl, hr2, hm2, hg2⟩))
    go_ret2
    exact list_below hb1 hmb ⟨v, rfl, hr2, hm2, hg2⟩
  · rw [alV_no (alOk_no hp), alOk_no hp]
    rw [hp] at HC
    go_enter Try.func42, Try.ntmps42
    go_wp2_with (go_at_call 65; refine (HC.out _).mono ?_; rintro e w' ⟨rfl, rfl⟩)
    go_ret2
    exact ⟨_, rfl, SRow.nil _ _, Below.refl _ _⟩
set_option maxHeartbeats 1000000 in
theorem specAllAhead_ret (a b k : Int) (w : World) : Calls Try.prog 41 #[.int .i64 a, .int .i64 b, .int .i64 k] w (StrsRet w (alOk a b k 1) (alV a b k 1)) := by
  rcases Bool.eq_false_or_eq_true (allOk a b k) with hp | hp
  · have hA := allOk_of hp
    have HN : Hid (∀ w, Calls Try.prog 64 #[.int .i64 a, .int .i64 b, .int .i64 k] w (Ret w (.int .i64 (aheadN (cntV a b) a b k)))) := Lib.hid fun w => baAhead_ret a b k w hA
    obtain ⟨h1, h2, h3, h4, h5⟩ := hA
    obtain ⟨x, rfl⟩ := Int.eq_ofNat_of_zero_le h1
    obtain ⟨y, rfl⟩ := Int.eq_ofNat_of_zero_le h2
    have hxy : x + y ≤ 40 := by omega
    rw [← WV_ahead h4 hxy] at HN
    have hbd := WV_bd x y k 1 x y hxy (Int.le_refl _) (Int.le_refl _)
    by_cases h300 : WV x y k 1 x y ≤ 300
    · have hok : alOk x y k 1 = true := by rw [alOk_nat hp]; unfold lsOk; exact decide_eq_true h300
      have HLS : Hid (behind ByteArray.empty (lstL (WV x y k 1) (x + y) x y) = alV x y k 1) := by
        have e := lst_rank (a := x) (b := y) (k := k) (l := 1) (n := x + y) (u := x) (d := y) (by omega) (by omega) (by omega) (Int.le_refl _) (Int.le_refl _)
        unfold Hid
        rw [alV_nat hp, behind_none]
        unfold lsV lsOk
        rw [decide_eq_true h300, if_pos rfl, ← e]
        unfold lstL lstT
        split
        · rfl
        · rfl
      have HK : Hid (∀ p W, LK p (.slice none 0 0) [] W → Calls Try.prog 70 #[.string ⟨#[]⟩, .int .i64 x, .int .i64 y, .int .i64 k, .int .i64 0, .int .i64 1, .pointer (some ⟨p, 0, none⟩)] W (LookRet p (alV x y k 1) W)) := Lib.hid fun p W hL => by
        have := look_any x y p k 1 hxy ⟨h4, h5⟩ (by omega) (x + y) x y ByteArray.empty _ [] W (by omega) (by omega) (by omega) (fun h => absurd ⟨rfl, rfl⟩ h) (by have : ByteArray.empty.size = 0 := rfl; omega) (by simp; omega) hL
        rw [lead_all, List.nil_append, HLS.out] at this
        exact this
      have HL0 : Hid (∀ w : World, LK w.heap.size (.slice none 0 0) [] (w.alloc (.cells #[.slice none 0 0] 39))) := Lib.hid fun w => ⟨by simp [go_sem], by simp [go_sem], by simp, SRow.nil _ _⟩
      rw [hok]
      clear HLS hok h1 h2 h3
      generalize alV x y k 1 = L at *
      generalize WV x y k 1 x y = z at *
      go_enter Try.func41, Try.ntmps41
      go_wp2_with (first | (go_at_call 63; refine (numbers_any _ _ _ _).mono ?_; rintro e w' ⟨rfl, rfl⟩; rw [hp]) | (go_at_call 64; refine (HN.out _).mono ?_; rintro e w1 ⟨rfl, hb1⟩) | (go_at_call 70; refine (HK.out _ _ (HL0.out _)).mono ?_; rintro e w2 ⟨rfl, v2, hL2, hb2⟩; have hcl := hL2.1; obtain ⟨A2, c2, rfl⟩ := hL2.2.2.2.shape))
      go_ret2
      exact ⟨_, rfl, hL2.2.2.2.mono (by have := hb1.size; omega), hb1.trans ((((Below.refl _ _).alloc (Nat.le_refl _) _).trans hb2).mono hb1.size)⟩
    · have hok : alOk x y k 1 = false := by rw [alOk_nat hp]; unfold lsOk; exact decide_eq_false h300
      rw [alV_no hok, hok]
      generalize WV x y k 1 x y = z at *
      have hz : 300 < z := by omega
      clear hok h300
      go_enter Try.func41, Try.ntmps41
      go_wp2_with (first | (go_at_call 63; refine (numbers_any _ _ _ _).mono ?_; rintro e w' ⟨rfl, rfl⟩; rw [hp]) | (go_at_call 64; refine (HN.out _).mono ?_; rintro e w1 ⟨rfl, hb1⟩))
      go_ret2
      exact ⟨_, rfl, SRow.nil _ _, hb1⟩
  · rw [alV_no (alOk_no hp), alOk_no hp]
    go_enter Try.func41, Try.ntmps41
    go_wp2_with (go_at_call 63; refine (numbers_any _ _ _ _).mono ?_; rintro e w' ⟨rfl, rfl⟩; rw [hp])
    go_ret2
    exact ⟨_, rfl, SRow.nil _ _, Below.refl _ _⟩

set_option maxHeartbeats 1000000 in
theorem allNeverBehind_ret (a b k : Int) (w : World) : Calls Try.prog 47 #[.int .i64 a, .int .i64 b, .int .i64 k] w (StrsRet w (alOk a b k 0) (alV a b k 0)) := by
  have HC : Hid (∀ w, Calls Try.prog 65 #[.int .i64 a, .int .i64 b, .int .i64 k] w fun e w' => e = .returned (.tuple #[.int .i64 (allV a b k), .bool (allOk a b k)]) ∧ w = w') := Lib.hid fun w => countAll_ret a b k w
  rcases Bool.eq_false_or_eq_true (allOk a b k) with hp | hp
  · obtain ⟨h1, h2, h3, h4, h5⟩ := allOk_of hp
    obtain ⟨x, rfl⟩ := Int.eq_ofNat_of_zero_le h1
    obtain ⟨y, rfl⟩ := Int.eq_ofNat_of_zero_le h2
    have hxy : x + y ≤ 40 := by omega
    have HL : Hid (∀ mb w, MapOk w mb (WV x y k 0) → Calls Try.prog 72 #[.agg #[.int .i64 x, .int .i64 y, .int .i64 k, .int .i64 0, .map (some mb)]] w (ListRet w mb (WV x y k 0) (alOk x y k 0) (alV x y k 0))) :=
      Lib.hid fun mb w hm => by rw [alOk_nat hp, alV_nat hp]; exact list_any x y mb k 0 w hxy ⟨h4, h5⟩ hm
    have HB : Hid (∀ w, Calls Try.prog 71 #[.int .i64 x, .int .i64 y, .int .i64 k, .int .i64 0] w fun e w' => ∃ mb, e = .returned (.agg #[.int .i64 x, .int .i64 y, .int .i64 k, .int .i64 0, .map (some mb)]) ∧ w.heap.size ≤ mb ∧ MapOk w' mb (WV x y k 0) ∧ Below w.heap.size w w') :=
      Lib.hid fun w => newBallot_any x y k 0 w _
    generalize alV x y k 0 = L at *
    generalize alOk x y k 0 = ok at *
    rw [hp] at HC
    clear hp h1 h2 h3
    go_enter Try.func47, Try.ntmps47
    go_wp2_with (first | (go_at_call 65; refine (HC.out _).mono ?_; rintro e w' ⟨rfl, rfl⟩) | (go_at_call 71; refine (HB.out _).mono ?_; rintro e w1 ⟨mb, rfl, hmb, hm1, hb1⟩) | (go_at_call 72; refine (HL.out _ _ hm1).mono ?_; rintro e w2 ⟨v, rfl, hr2, hm2, hg2⟩))
    go_ret2
    exact list_below hb1 hmb ⟨v, rfl, hr2, hm2, hg2⟩
  · rw [alV_no (alOk_no hp), alOk_no hp]
    rw [hp] at HC
    go_enter Try.func47, Try.ntmps47
    go_wp2_with (go_at_call 65; refine (HC.out _).mono ?_; rintro e w' ⟨rfl, rfl⟩)
    go_ret2
    exact ⟨_, rfl, SRow.nil _ _, Below.refl _ _⟩
set_option maxHeartbeats 1000000 in
theorem specAllNeverBehind_ret (a b k : Int) (w : World) : Calls Try.prog 46 #[.int .i64 a, .int .i64 b, .int .i64 k] w (StrsRet w (alOk a b k 0) (alV a b k 0)) := by
  rcases Bool.eq_false_or_eq_true (allOk a b k) with hp | hp
  · have hA := allOk_of hp
    have HN : Hid (∀ w, Calls Try.prog 66 #[.int .i64 a, .int .i64 b, .int .i64 k] w (Ret w (.int .i64 (neverN (cntV a b) a b k)))) := Lib.hid fun w => baNever_ret a b k w hA
    obtain ⟨h1, h2, h3, h4, h5⟩ := hA
    obtain ⟨x, rfl⟩ := Int.eq_ofNat_of_zero_le h1
    obtain ⟨y, rfl⟩ := Int.eq_ofNat_of_zero_le h2
    have hxy : x + y ≤ 40 := by omega
    rw [← WV_never h4 hxy] at HN
    have hbd := WV_bd x y k 0 x y hxy (Int.le_refl _) (Int.le_refl _)
    by_cases h300 : WV x y k 0 x y ≤ 300
    · have hok : alOk x y k 0 = true := by rw [alOk_nat hp]; unfold lsOk; exact decide_eq_true h300
      have HLS : Hid (behind ByteArray.empty (lstL (WV x y k 0) (x + y) x y) = alV x y k 0) := by
        have e := lst_rank (a := x) (b := y) (k := k) (l := 0) (n := x + y) (u := x) (d := y) (by omega) (by omega) (by omega) (Int.le_refl _) (Int.le_refl _)
        unfold Hid
        rw [alV_nat hp, behind_none]
        unfold lsV lsOk
        rw [decide_eq_true h300, if_pos rfl, ← e]
        unfold lstL lstT
        split
        · rfl
        · rfl
      have HK : Hid (∀ p W, LK p (.slice none 0 0) [] W → Calls Try.prog 70 #[.string ⟨#[]⟩, .int .i64 x, .int .i64 y, .int .i64 k, .int .i64 0, .int .i64 0, .pointer (some ⟨p, 0, none⟩)] W (LookRet p (alV x y k 0) W)) := Lib.hid fun p W hL => by
        have := look_any x y p k 0 hxy ⟨h4, h5⟩ (by omega) (x + y) x y ByteArray.empty _ [] W (by omega) (by omega) (by omega) (fun h => absurd ⟨rfl, rfl⟩ h) (by have : ByteArray.empty.size = 0 := rfl; omega) (by simp; omega) hL
        rw [lead_all, List.nil_append, HLS.out] at this
        exact this
      have HL0 : Hid (∀ w : World, LK w.heap.size (.slice none 0 0) [] (w.alloc (.cells #[.slice none 0 0] 39))) := Lib.hid fun w => ⟨by simp [go_sem], by simp [go_sem], by simp, SRow.nil _ _⟩
      rw [hok]
      clear HLS hok h1 h2 h3
      generalize alV x y k 0 = L at *
      generalize WV x y k 0 x y = z at *
      go_enter Try.func46, Try.ntmps46
      go_wp2_with (first | (go_at_call 63; refine (numbers_any _ _ _ _).mono ?_; rintro e w' ⟨rfl, rfl⟩; rw [hp]) | (go_at_call 66; refine (HN.out _).mono ?_; rintro e w1 ⟨rfl, hb1⟩) | (go_at_call 70; refine (HK.out _ _ (HL0.out _)).mono ?_; rintro e w2 ⟨rfl, v2, hL2, hb2⟩; have hcl := hL2.1; obtain ⟨A2, c2, rfl⟩ := hL2.2.2.2.shape))
      go_ret2
      exact ⟨_, rfl, hL2.2.2.2.mono (by have := hb1.size; omega), hb1.trans ((((Below.refl _ _).alloc (Nat.le_refl _) _).trans hb2).mono hb1.size)⟩
    · have hok : alOk x y k 0 = false := by rw [alOk_nat hp]; unfold lsOk; exact decide_eq_false h300
      rw [alV_no hok, hok]
      generalize WV x y k 0 x y = z at *
      have hz : 300 < z := by omega
      clear hok h300
      go_enter Try.func46, Try.ntmps46
      go_wp2_with (first | (go_at_call 63; refine (numbers_any _ _ _ _).mono ?_; rintro e w' ⟨rfl, rfl⟩; rw [hp]) | (go_at_call 66; refine (HN.out _).mono ?_; rintro e w1 ⟨rfl, hb1⟩))
      go_ret2
      exact ⟨_, rfl, SRow.nil _ _, hb1⟩
  · rw [alV_no (alOk_no hp), alOk_no hp]
    go_enter Try.func46, Try.ntmps46
    go_wp2_with (go_at_call 63; refine (numbers_any _ _ _ _).mono ?_; rintro e w' ⟨rfl, rfl⟩; rw [hp])
    go_ret2
    exact ⟨_, rfl, SRow.nil _ _, Below.refl _ _⟩
end Go.Proofs.Ytcnggafbdjhagaa
