/- The model's CountByHighest, CountBothTouched. -/
import Derived.Test.YtlgiamgjimffnaaSumS
import Derived.Test.YtlgiamgjimffnaaBalMath
namespace Go.Proofs.Ytlgiamgjimffnaa
open Go.RowKit
set_option linter.unusedVariables false
def byH (n : Int) (h : Nat) : Int := toZ n h + toZ n ((h : Int) + 1)
def chOk (n : Int) : Bool := inB n 0 40
def chV (n : Int) : List Int := if chOk n = true then fr (byH n) (n + 1).toNat else []
theorem chV_len (n : Int) : (chV n).length ≤ 1048577 := by
  unfold chV
  split
  · rename_i h
    have := inB_of h
    rw [fr_length]
    omega
  · simp
set_option maxHeartbeats 800000 in
theorem specCountByHighest_ret (n : Int) (w : World) : Calls Try.prog 73 #[.int .i64 n] w (IntsRet w (chOk n) (chV n)) := by
  have HI := Lib.hid (in_any n 0 40)
  rcases Bool.eq_false_or_eq_true (inB n 0 40) with hi | hi
  · have e1 : chOk n = true := hi
    have e2 : chV n = fr (byH n) (n + 1).toNat := by rw [chV, if_pos e1]
    obtain ⟨m, rfl⟩ : ∃ m : Nat, n = m := ⟨n.toNat, by have := inB_of hi; omega⟩
    have hm : m ≤ 40 := by have := inB_of hi; omega
    rw [e1, e2, show ((m : Int) + 1).toNat = m + 1 by omega]
    clear e1 e2
    obtain ⟨i0, hi0, hz0, hz1, hz2⟩ := info_parts intInfo
    go_enter Try.func73, Try.ntmps73
    go_wp2_with (first | (go_at_call 101; refine (HI.out _).mono ?_; rintro e w' ⟨rfl, rfl⟩) | (refine wpList_make_full _ rfl (.tmp 10) (.tmp 10) 27 rfl w.heap.size 3 i0 (.int .i64 0) 1 Try.underlying27 hi0 hz0 hz1 .i64 .i64 _ _ (m + 1) rfl rfl (by omega) (by omega) (by rw [hz2]; omega) (by unfold maxLen; omega) (Nat.le_refl _) ?_; intro w1 hown1 hgrow1))
    have hrow1 : IRow w1 w.heap.size (.slice (some ⟨w.heap.size, 0, none⟩) (m + 1) (m + 1)) (fil (byH m) (m + 1) 0) :=
      IRow.of_own hown1 (by simp [fil_length]) (by rw [fil_zero, madeOne _ rfl]; simp)
    have hb1 : Below w.heap.size w w1 := (Below.refl _ _).grown hgrow1 (Nat.le_refl _) (by simp)
    clear hown1 hgrow1
    go_loopw [5, 14] (fun q i wr => ∃ j : Nat, j ≤ m + 1 ∧ i = .int .i64 (j : Int) ∧ IRow wr w.heap.size (.slice (some ⟨w.heap.size, 0, none⟩) (m + 1) (m + 1)) (fil (byH m) (m + 1) j) ∧ Below w.heap.size w wr) (fun _ i _ => m + 1 - (intOf i).toNat)
    case atStart => exact ⟨0, Nat.zero_le _, rfl, hrow1, hb1⟩
    case round =>
      obtain ⟨j, hj, rfl, hrow, hb⟩ := hrel
      by_cases hlt : j < m + 1
      · have hsz := hb.size
        have hgl := (hrow.blk _ rfl).2
        have b1 := toZ_bd m j (by omega)
        have b2 := toZ_bd m ((j : Int) + 1) (by omega)
        have H1 : Hid (∀ w, Calls Try.prog 102 #[.int .i64 (m : Int), .int .i64 (j : Int)] w (Ret w (.int .i64 (toZ m j)))) := Lib.hid fun w => miTo_ret _ _ w (by omega) (by omega)
        have H2 : Hid (∀ w, Calls Try.prog 102 #[.int .i64 (m : Int), .int .i64 ((j : Int) + 1)] w (Ret w (.int .i64 (toZ m ((j : Int) + 1))))) := Lib.hid fun w => miTo_ret _ _ w (by omega) (by omega)
        have HS : Hid (byH m j = toZ m j + toZ m ((j : Int) + 1)) := Lib.hid rfl
        have i1 : (j : Int) < (m : Int) + 1 := by omega
        have tok1 : True := trivial
        have hrr := hrow
        have hacc := hb
        clear hrow hb hrow1 hb1
        generalize toZ m j = z1 at *
        generalize toZ m ((j : Int) + 1) = z2 at *
        go_wp2_with (first
          | (have _t := tok1; go_at_call 102; clear _t tok1; refine (H1.out _).mono ?_; rintro e w2 ⟨rfl, hb2⟩; replace hrr := hrr.below hb2; replace hacc := hacc.trans (hb2.mono hsz))
          | (go_at_call 102; refine (H2.out _).mono ?_; rintro e w3 ⟨rfl, hb3⟩; have hf3 := (hrr.below hb3).free j; have hc3 := (hrr.below hb3).cell (j := j) (by rw [fil_length]; omega)))
        have hs2 := hb2.size
        have hst := ((hrr.below hb3).set j (byH m j)).1
        rw [fil_set, HS.out] at hst
        have HST := Lib.hid hst
        have HACC := Lib.hid ((hacc.trans (hb3.mono hacc.size)).setCell (p := ⟨w.heap.size, j, none⟩) (Nat.le_refl _) (.int .i64 (z1 + z2)))
        clear hst hacc hrr hf3 hc3 hb3 hb2
        go_roundw
        case rel => exact ⟨j + 1, by omega, by go_num, HST.out, HACC.out⟩
        case measure => simp [intOf]; omega
      · obtain rfl : j = m + 1 := by omega
        have hr := hrow
        rw [fil_full] at hr
        have HR := Lib.hid hr
        clear hr hrow
        go_wp2_with fail
        go_ret2
        exact ⟨_, rfl, HR.out, hb⟩
  · have e1 : chOk n = false := hi
    have e2 : chV n = [] := by rw [chV, e1]; rfl
    rw [e1, e2]
    clear e1 e2
    go_enter Try.func73, Try.ntmps73
    go_wp2_with (go_at_call 101; refine (HI.out _).mono ?_; rintro e w' ⟨rfl, rfl⟩)
    go_ret2
    exact ⟨_, rfl, IRow.nil _ _, Below.refl _ _⟩
end Go.Proofs.Ytlgiamgjimffnaa
