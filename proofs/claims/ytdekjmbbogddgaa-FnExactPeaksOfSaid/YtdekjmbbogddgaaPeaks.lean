/- Peaks of a path. -/
import Derived.Test.YtdekjmbbogddgaaPathOk
import Derived.Test.YtdekjmbbogddgaaOwn
import Derived.Lib.Strings
namespace Go.Proofs.Ytdekjmbbogddgaa
open Go.RowKit
def peakAt (s : ByteArray) (k : Nat) : Bool := if h : k + 1 < s.size then s[k] == 85 && s[k + 1] == 68 else false
def peaksTo (s : ByteArray) : Nat → List Int
  | 0 => []
  | k + 1 => if peakAt s k then peaksTo s k ++ [(k : Int)] else peaksTo s k
theorem peaksTo_len (s : ByteArray) : ∀ k, (peaksTo s k).length ≤ k := by
  intro k
  induction k with
  | zero => simp [peaksTo]
  | succ k ih => unfold peaksTo; split
                 · rw [List.length_append]; simp; omega
                 · omega
theorem peaksTo_yes {s : ByteArray} {k : Nat} (h : peakAt s k = true) : peaksTo s (k + 1) = peaksTo s k ++ [(k : Int)] := by rw [peaksTo, if_pos h]
theorem peaksTo_no {s : ByteArray} {k : Nat} (h : peakAt s k = false) : peaksTo s (k + 1) = peaksTo s k := by rw [peaksTo, h]; rfl
theorem eq_int (c : UInt8) (n : Nat) (hn : n < 256) : (c == UInt8.ofNat n) = ((c.toNat : Int) == (n : Int)) := by
  rw [Bool.eq_iff_iff]
  simp [← UInt8.toNat_inj, Nat.mod_eq_of_lt hn]
  omega
theorem pk_yes {s : ByteArray} {k : Nat} (hk : k + 1 < s.size) (h1 : (s[k].toNat : Int) = 85) (h2 : ((s[k + 1].toNat : Int) == 68) = true) : peakAt s k = true := by
  unfold peakAt
  rw [dif_pos hk, show (s[k] == 85) = ((s[k].toNat : Int) == 85) from eq_int _ 85 (by omega), show (s[k + 1] == 68) = ((s[k + 1].toNat : Int) == 68) from eq_int _ 68 (by omega), h1, h2]; rfl
theorem pk_no2 {s : ByteArray} {k : Nat} (hk : k + 1 < s.size) (h2 : ((s[k + 1].toNat : Int) == 68) = false) : peakAt s k = false := by
  unfold peakAt
  rw [dif_pos hk, show (s[k + 1] == 68) = ((s[k + 1].toNat : Int) == 68) from eq_int _ 68 (by omega), h2, Bool.and_false]
theorem pk_no1 {s : ByteArray} {k : Nat} (hk : k + 1 < s.size) (h1 : ¬ (s[k].toNat : Int) = 85) : peakAt s k = false := by
  unfold peakAt
  rw [dif_pos hk, show (s[k] == 85) = ((s[k].toNat : Int) == 85) from eq_int _ 85 (by omega), beq_eq_false_iff_ne.2 h1]; rfl
theorem pk_sub {s : ByteArray} {k : Nat} (hk : k + 1 < s.size) : ((s.extract k (k + 2)).toList == [85, 68]) = peakAt s k := by
  unfold peakAt
  rw [dif_pos hk, ByteArray.toList_eq, Lib.extract_data]
  have hl : s.data.toList.length = s.size := by simp
  rw [List.drop_eq_getElem_cons (by omega), List.drop_eq_getElem_cons (by omega)]
  have e : k + 2 - k = 2 := by omega
  rw [e]
  simp only [List.take_succ_cons, List.take_zero]
  have e1 : s.data.toList[k]'(by omega) = s[k] := rfl
  have e2 : s.data.toList[k + 1]'(by omega) = s[k + 1] := rfl
  rw [e1, e2, Bool.eq_iff_iff]
  simp
def peaksV (s : ByteArray) : List Int := if pathB s then peaksTo s (s.size - 1) else []
theorem peaksV_len (s : ByteArray) (h : ¬ 1048576 < s.size) : (peaksV s).length ≤ 1048577 := by
  unfold peaksV; split
  · have := peaksTo_len s (s.size - 1); omega
  · simp
set_option maxHeartbeats 400000 in
theorem peaks_ret (s : ByteArray) (w : World) (hs : s.size ≤ maxLen) : Calls Try.prog 45 #[.string s] w (IntsRet w (pathB s) (peaksV s)) := by
  unfold peaksV
  rcases Bool.eq_false_or_eq_true (pathB s) with hp | hp
  · rw [hp, if_pos rfl]
    have h40 := ((pathB_iff s).1 hp).1
    go_enter Try.func45, Try.ntmps45
    go_wp2_with (go_at_call 36; refine (isPath_any s _ hs).mono ?_; rintro e w' ⟨rfl, rfl⟩)
    go_loopw [4, 5] (fun v i wr => ∃ k : Nat, k ≤ s.size - 1 ∧ i = .int .i64 ((k : Int) + 1) ∧ IRow wr w.heap.size v (peaksTo s k) ∧ Below w.heap.size w wr) (fun _ i _ => s.size - (intOf i).toNat)
    case atStart => exact ⟨0, Nat.zero_le _, rfl, IRow.nil _ _, Below.refl _ _⟩
    case round =>
      obtain ⟨k, hk, rfl, hrow, hb⟩ := hrel
      by_cases hlt : k + 1 < s.size
      · have hle := peaksTo_len s k
        have hsz := hb.size
        go_wp2_with (at_builtin; refine wpList_push (.tmp 26) (.tmp 29) rfl rfl w.heap.size _ (peaksTo s k) rfl hrow rfl (by omega) hsz ?_; intro v' w' hrow' hg' hat')
        · go_roundw
          case rel => exact ⟨k + 1, by omega, by go_num, by rw [peaksTo_yes (pk_yes hlt (by assumption) (by assumption))]; exact hrow', hb.grown hg' hsz (fun j hj => (hrow.blk j hj).1)⟩
          case measure => simp [intOf]; omega
        · go_roundw
          case rel => exact ⟨k + 1, by omega, by go_num, by rw [peaksTo_no (pk_no2 hlt (by assumption))]; exact hrow, hb⟩
          case measure => simp [intOf]; omega
        · go_roundw
          case rel => exact ⟨k + 1, by omega, by go_num, by rw [peaksTo_no (pk_no1 hlt (by assumption))]; exact hrow, hb⟩
          case measure => simp [intOf]; omega
      · go_wp2
        obtain rfl : k = s.size - 1 := by omega
        go_ret2
        exact ⟨_, rfl, hrow, hb⟩
  · rw [hp]
    go_enter Try.func45, Try.ntmps45
    go_wp2_with (go_at_call 36; refine (isPath_any s _ hs).mono ?_; rintro e w' ⟨rfl, rfl⟩)
    go_ret2
    exact ⟨_, rfl, IRow.nil _ _, Below.refl _ _⟩
set_option maxHeartbeats 400000 in
theorem paPeaks_ret (s : ByteArray) (w : World) (h40 : s.size ≤ 40) : Calls Try.prog 90 #[.string s] w (IntsNew w (peaksTo s (s.size - 1))) := by
  go_enter Try.func90, Try.ntmps90
  go_wp2
  go_loopw [3, 4] (fun v i wr => ∃ k : Nat, k ≤ s.size - 1 ∧ i = .int .i64 (k : Int) ∧ IRow wr w.heap.size v (peaksTo s k) ∧ Below w.heap.size w wr) (fun _ i _ => s.size - (intOf i).toNat)
  case atStart => exact ⟨0, Nat.zero_le _, rfl, IRow.nil _ _, Below.refl _ _⟩
  case round =>
    obtain ⟨k, hk, rfl, hrow, hb⟩ := hrel
    by_cases hlt : k + 1 < s.size
    · have hle := peaksTo_len s k
      have hsz := hb.size
      go_wp2_with (at_builtin; refine wpList_push (.tmp 18) (.tmp 20) rfl rfl w.heap.size _ (peaksTo s k) rfl hrow rfl (by omega) hsz ?_; intro v' w' hrow' hg' hat')
      · go_roundw
        case rel => exact ⟨k + 1, by omega, by go_num, by rw [peaksTo_yes ((pk_sub hlt).symm.trans (by assumption))]; exact hrow', hb.grown hg' hsz (fun j hj => (hrow.blk j hj).1)⟩
        case measure => simp [intOf]; omega
      · go_roundw
        case rel => exact ⟨k + 1, by omega, by go_num, by rw [peaksTo_no ((pk_sub hlt).symm.trans (by assumption))]; exact hrow, hb⟩
        case measure => simp [intOf]; omega
    · go_wp2
      obtain rfl : k = s.size - 1 := by omega
      go_ret
      exact ⟨_, rfl, hrow, hb⟩
set_option maxHeartbeats 400000 in
theorem specPeaks_ret (s : ByteArray) (w : World) (hs : s.size ≤ maxLen) : Calls Try.prog 46 #[.string s] w (IntsRet w (pathB s) (peaksV s)) := by
  unfold peaksV
  rcases Bool.eq_false_or_eq_true (pathB s) with hp | hp
  · rw [hp, if_pos rfl]
    have h40 := ((pathB_iff s).1 hp).1
    go_enter Try.func46, Try.ntmps46
    go_wp2_with (first | (go_at_call 75; refine (paGood_any s _ hs).mono ?_; rintro e w' ⟨rfl, rfl⟩) | (go_at_call 90; refine (paPeaks_ret s _ h40).mono ?_; rintro e w' ⟨v, rfl, hr, hb⟩))
    go_ret2
    exact ⟨_, rfl, hr, hb⟩
  · rw [hp]
    go_enter Try.func46, Try.ntmps46
    go_wp2_with (go_at_call 75; refine (paGood_any s _ hs).mono ?_; rintro e w' ⟨rfl, rfl⟩)
    go_ret2
    exact ⟨_, rfl, IRow.nil _ _, Below.refl _ _⟩
end Go.Proofs.Ytdekjmbbogddgaa
