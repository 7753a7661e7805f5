/- The program: CountsOfVotes, WinnersOf, LeadersAlong. -/
import Derived.Test.YtnlcainfkchieaaDoorVoI
import Derived.Test.YtnlcainfkchieaaDoorVoS3
import Derived.Test.YtnlcainfkchieaaDoorDegI
import Derived.Test.YtnlcainfkchieaaDoorBytes
namespace Go.Proofs.YtnlcainfkchieaaDoor
open Go.RowKit
set_option linter.unusedVariables false
set_option maxRecDepth 100000 in
set_option maxHeartbeats 1600000 in
theorem countsOf_ret (s : ByteArray) (w : World) (hs : s.size ≤ maxLen) : Calls Tryd.prog 17 #[.string s] w (IntsRet w (votB s) (cntV9 s)) := by
  obtain ⟨i0, hi0, hz0, hz1, hz2⟩ := info_parts intInfo
  have HA : Hid (∀ w, Calls Tryd.prog 15 #[.string s] w (Ret w (.bool (votB s)))) := Lib.hid fun w => areVotes_any s w hs
  unfold cntV9
  rcases Bool.eq_false_or_eq_true (votB s) with hv | hv
  · have h16 := ((votB_iff s).1 hv).1
    have HC : Hid (∀ (k : Nat) (h : k < s.size) (w : World), Calls Tryd.prog 50 #[.int .u8 (s[k].toNat : Int)] w fun e w' => e = .returned (.int .i64 ((cd s k : Nat) : Int)) ∧ w = w') := Lib.hid fun k h w => candOf_any s k w hv h
    have HLT := Lib.hid (fun k h => votB_lt hv k h)
    rw [hv] at HA
    rw [hv, if_pos rfl]
    clear hv
    go_enter Tryd.func17, Tryd.ntmps17
    go_wp2_with (first | (go_at_call 15; refine (HA.out _).mono ?_; rintro e w1 ⟨rfl, hb1⟩) | (refine wpList_make_full _ rfl (.const (.int .i64 4)) (.const (.int .i64 4)) 23 rfl w1.heap.size 3 i0 (.int .i64 0) 1 Tryd.underlying23 hi0 hz0 hz1 .i64 .i64 _ _ 4 rfl rfl (by omega) (by omega) (by rw [hz2]; omega) (by unfold maxLen; omega) (Nat.le_refl _) ?_; intro w2 hown1 hgrow1))
    have hrow1 : IRow w2 w1.heap.size (.slice (some ⟨w1.heap.size, 0, none⟩) 4 4) (vcL s 0) :=
      IRow.of_own hown1 rfl (by rw [vcL_zero, madeOne _ rfl]; simp)
    have hb2 : Below w1.heap.size w1 w2 := (Below.refl _ _).grown hgrow1 (Nat.le_refl _) (by simp)
    clear hown1 hgrow1
    go_loopw [5, 12] (fun q i wr => ∃ k : Nat, k ≤ s.size ∧ i = .int .i64 (k : Int) ∧ IRow wr w1.heap.size (.slice (some ⟨w1.heap.size, 0, none⟩) 4 4) (vcL s k) ∧ Below w1.heap.size w1 wr) (fun _ i _ => s.size - (intOf i).toNat)
    case atStart => exact ⟨0, Nat.zero_le _, rfl, hrow1, hb2⟩
    case round =>
      obtain ⟨k, hk, rfl, hrow, hb⟩ := hrel
      clear hrow1 hb2
      by_cases hlt : k < s.size
      · have hc4 := HLT.out k hlt
        have hle := vc_le s (cd s k) k
        have HSET := Lib.hid (vcL_set s k hc4)
        have hcell := hrow.cell (j := cd s k) (by rw [vcL_len]; exact hc4)
        rw [vcL_get s k _ hc4] at hcell
        have hfree := hrow.free (cd s k)
        have hst := (hrow.set (cd s k) (((vc s (cd s k) k : Nat) : Int) + 1)).1
        rw [HSET.out] at hst
        have HST := Lib.hid hst
        have HBS := Lib.hid (hb.setCell (p := ⟨w1.heap.size, cd s k, none⟩) (Nat.le_refl _) (.int .i64 (((vc s (cd s k) k : Nat) : Int) + 1)))
        have HCK := Lib.hid (HC.out k hlt)
        clear hst hrow hb HSET HC HLT
        generalize vc s (cd s k) k = x at *
        generalize cd s k = c at *
        go_wp2_with (go_at_call 50; refine (HCK.out _).mono ?_; rintro e w' ⟨rfl, rfl⟩)
        go_roundw
        case rel => exact ⟨k + 1, by omega, by go_num, HST.out, HBS.out⟩
        case measure => first | (simp [intOf]; done) | (simp [intOf]; omega)
      · obtain rfl : k = s.size := by omega
        have HR := Lib.hid hrow
        clear hrow
        go_wp2
        go_ret2
        exact ⟨_, rfl, HR.out.mono hb1.size, hb1.trans (hb.mono hb1.size)⟩
  · rw [hv] at HA ⊢
    clear hv
    go_enter Tryd.func17, Tryd.ntmps17
    go_wp2_with (go_at_call 15; refine (HA.out _).mono ?_; rintro e w1 ⟨rfl, hb1⟩)
    go_ret2
    exact ⟨_, rfl, IRow.nil _ _, hb1⟩
/-- the letters of the first k with the number m -/
def wiL (xs : List Int) (m : Int) : Nat → List UInt8
  | 0 => []
  | k + 1 => if xs.getD k 0 = m then wiL xs m k ++ [UInt8.ofNat (97 + k)] else wiL xs m k
theorem wiL_yes {xs : List Int} {m : Int} {k : Nat} (h : (xs.getD k 0 == m) = true) : wiL xs m (k + 1) = wiL xs m k ++ [UInt8.ofNat (97 + k)] := by rw [wiL, if_pos (by simpa using h)]
theorem wiL_no {xs : List Int} {m : Int} {k : Nat} (h : (xs.getD k 0 == m) = false) : wiL xs m (k + 1) = wiL xs m k := by rw [wiL, if_neg (by simpa using h)]
theorem wiL_len (xs : List Int) (m : Int) : ∀ k, (wiL xs m k).length ≤ k
  | 0 => Nat.le_refl _
  | k + 1 => by
    have := wiL_len xs m k
    rw [wiL]; split
    · rw [List.length_append]; simp; omega
    · omega
theorem str_snoc (l : List UInt8) (c : UInt8) : strOf (l ++ [c]) = strOf l ++ ⟨#[c]⟩ := by
  apply ByteArray.ext
  simp [strOf, ByteArray.data_append]
theorem wiL_str (xs : List Int) (m : Int) : ∀ k, strOf (wiL xs m k) = wiTo xs m k
  | 0 => rfl
  | k + 1 => by
    rw [wiL, wiTo, ← wiL_str xs m k]
    split
    · rw [str_snoc]
    · rfl
theorem mo_mx (s : ByteArray) (k : Nat) : moTo (vcL s k) 4 = mxT (vcL s k) 3 := by
  have h0 : (vcL s k).getD 0 0 = ((vc s 0 k : Nat) : Int) := rfl
  have e : max (0 : Int) ((vc s 0 k : Nat) : Int) = ((vc s 0 k : Nat) : Int) := by omega
  show max (max (max (max 0 ((vcL s k).getD 0 0)) ((vcL s k).getD 1 0)) ((vcL s k).getD 2 0)) ((vcL s k).getD 3 0) = max (max (max ((vcL s k).getD 0 0) ((vcL s k).getD 1 0)) ((vcL s k).getD 2 0)) ((vcL s k).getD 3 0)
  rw [h0, e]
end Go.Proofs.YtnlcainfkchieaaDoor
