/- BackPath. -/
import Derived.Test.YtdekjmbbogddgabTurn
namespace Go.Proofs.Ytdekjmbbogddgab
open Go.RowKit
/-- the list with the first k and the last k exchanged, each for the one across -/
def revTo (l : List UInt8) (k : Nat) : List UInt8 := (List.range l.length).map fun j => if j < k ∨ l.length - k ≤ j then l.getD (l.length - 1 - j) 0 else l.getD j 0
theorem revTo_length (l : List UInt8) (k : Nat) : (revTo l k).length = l.length := by simp [revTo]
theorem revTo_get (l : List UInt8) (k j : Nat) (h : j < l.length) : (revTo l k)[j]? = some (if j < k ∨ l.length - k ≤ j then l.getD (l.length - 1 - j) 0 else l.getD j 0) := by
  unfold revTo; rw [List.getElem?_map, List.getElem?_range h]; rfl
theorem revTo_zero (l : List UInt8) : revTo l 0 = l := by
  apply List.ext_getElem?
  intro j
  by_cases h : j < l.length
  · rw [revTo_get l 0 j h, if_neg (by omega), List.getD_eq_getElem?_getD, List.getElem?_eq_getElem h]; rfl
  · rw [List.getElem?_eq_none (by rw [revTo_length]; omega), List.getElem?_eq_none (by omega)]
theorem revTo_full (l : List UInt8) (k : Nat) (h : l.length ≤ 2 * k + 1) : revTo l k = l.reverse := by
  apply List.ext_getElem?
  intro j
  by_cases hj : j < l.length
  · rw [revTo_get l k j hj, List.getElem?_reverse hj]
    by_cases c : j < k ∨ l.length - k ≤ j
    · rw [if_pos c, List.getD_eq_getElem?_getD, List.getElem?_eq_getElem (by omega)]; rfl
    · rw [if_neg c]
      have : l.length - 1 - j = j := by omega
      rw [this, List.getD_eq_getElem?_getD, List.getElem?_eq_getElem hj]; rfl
  · rw [List.getElem?_eq_none (by rw [revTo_length]; omega), List.getElem?_eq_none (by simp; omega)]
theorem revTo_step (l : List UInt8) (k : Nat) (h : k < l.length - 1 - k) : ((revTo l k).set k (l.getD (l.length - 1 - k) 0)).set (l.length - 1 - k) (l.getD k 0) = revTo l (k + 1) := by
  apply List.ext_getElem?
  intro j
  by_cases hj : j < l.length
  · rw [revTo_get l (k + 1) j hj, List.getElem?_set, List.getElem?_set, List.length_set, revTo_length]
    by_cases e1 : l.length - 1 - k = j
    · rw [if_pos e1, if_pos (by omega), if_pos (by omega)]
      have : l.length - 1 - j = k := by omega
      rw [this]
    · rw [if_neg e1]
      by_cases e2 : k = j
      · rw [if_pos e2, if_pos (by omega), if_pos (by omega), e2]
      · rw [if_neg e2, revTo_get l k j hj]
        by_cases c : j < k ∨ l.length - k ≤ j
        · rw [if_pos c, if_pos (by omega)]
        · rw [if_neg c, if_neg (by omega)]
  · rw [List.getElem?_eq_none (by simp [revTo_length]; omega), List.getElem?_eq_none (by rw [revTo_length]; omega)]
theorem revTo_at (l : List UInt8) (k j : Nat) (hj : j < l.length) (h : ¬ (j < k ∨ l.length - k ≤ j)) (h' : j < (revTo l k).length) : (revTo l k)[j] = l.getD j 0 := by
  rw [(List.getElem_eq_iff h').2 (revTo_get l k j hj), if_neg h]
set_option maxHeartbeats 800000 in
theorem paReverse_ret (s : ByteArray) (w : World) (h40 : s.size ≤ 40) : Calls Try.prog 49 #[.string s] w (Ret w (.string (strOf s.data.toList.reverse))) := by
  have hl : s.data.toList.length = s.size := by simp
  go_enter Try.func49, Try.ntmps49
  go_wp2
  go_loopw [3, 4] (fun v i wr => ∃ k : Nat, k ≤ s.size ∧ i = .int .i64 ((s.size : Int) - 1 - k) ∧ BOwn wr w.heap.size v (s.data.toList.reverse.take k) ∧ Below w.heap.size w wr) (fun _ i _ => ((intOf i) + 1).toNat)
  case atStart => exact ⟨0, Nat.zero_le _, by go_num, BOwn.nil _ _, Below.refl _ _⟩
  case round =>
    obtain ⟨k, hk, rfl, hrow, hb⟩ := hrel
    have hsz := hb.size
    have hlen : (s.data.toList.reverse.take k).length ≤ 40 := by simp; omega
    by_cases hlt : k < s.size
    · obtain ⟨j, hj⟩ : ∃ j : Nat, j = s.size - 1 - k := ⟨_, rfl⟩
      have hji : (s.size : Int) - 1 - k = j := by omega
      rw [hji]
      have hjl : j < s.size := by omega
      have HX : Hid (s.data.toList.reverse.take k ++ [s[j]] = s.data.toList.reverse.take (k + 1)) := by
        unfold Hid
        rw [List.take_succ_eq_append_getElem (by simp; omega)]
        congr 2
        rw [List.getElem_reverse]
        subst hj
        simp [hl]; rfl
      have HJ := Lib.hid hj
      have HJI := Lib.hid hji
      clear hj hji
      go_wp2_with (at_builtin; refine wpList_pushB s[j] (.tmp 12) (.tmp 16) rfl rfl w.heap.size _ _ rfl hrow rfl (by omega) hsz ?_; intro v' w' hrow' hg' hat')
      rw [HX.out] at hrow'
      go_roundw
      case rel => exact ⟨k + 1, by omega, by have := HJI.out; go_num, hrow', hb.grown hg' hsz (fun j hj => (hrow.blk j hj).1)⟩
      case measure => first | (simp [intOf]; done) | (simp [intOf]; have := HJI.out; omega)
    · have HK : Hid (k = s.size) := by unfold Hid; omega
      have hcv := run_str_own hrow
      go_wp2
      go_ret
      rw [HK.out, List.take_of_length_le (by simp)]
      exact ⟨rfl, hb⟩
set_option maxHeartbeats 1000000 in
theorem reverse_any (xs : List UInt8) (B g c : Nat) (w : World) (h : BRow w B g xs) (h40 : xs.length ≤ 1000000) :
    Calls Try.prog 50 #[.slice (some ⟨g, 0, none⟩) xs.length c] w fun e w' => e = .returned (.tuple #[]) ∧ BRow w' B g xs.reverse ∧ Below B w w' := by
  generalize hn : xs.length = n at *
  have HN := Lib.hid hn
  have hsz := h.lt
  have hfr := h.from_
  go_enter Try.func50, Try.ntmps50
  clear hn
  go_wp2
  go_loopw [2, 3] (fun i j wr => ∃ k : Nat, 2 * k ≤ n + 1 ∧ i = .int .i64 (k : Int) ∧ j = .int .i64 ((n : Int) - 1 - k) ∧ BRow wr B g (revTo xs k) ∧ Below B w wr) (fun i _ _ => n + 1 - (intOf i).toNat)
  case atStart => exact ⟨0, by omega, rfl, by go_num, by rw [revTo_zero]; exact h, Below.refl _ _⟩
  case round =>
    obtain ⟨k, hk, rfl, rfl, hrow, hb⟩ := hrel
    have HL : Hid ((revTo xs k).length = n) := Lib.hid (by rw [revTo_length]; exact HN.out)
    by_cases hlt : k < n - 1 - k
    · obtain ⟨j, hj⟩ : ∃ j : Nat, j = n - 1 - k := ⟨_, rfl⟩
      have hji : (n : Int) - 1 - k = j := by omega
      rw [hji]
      have hkn : k < n := by omega
      have hjn : j < n := by omega
      have hkj : k < j := by omega
      have e1 := hrow.cell k (by rw [HL.out]; omega)
      have e2 := hrow.cell j (by rw [HL.out]; omega)
      rw [revTo_at xs k k (by rw [HN.out]; omega) (by rw [HN.out]; omega)] at e1
      rw [revTo_at xs k j (by rw [HN.out]; omega) (by rw [HN.out]; omega)] at e2
      have f1 := hrow.free k (by rw [HL.out]; omega)
      have f2 := hrow.free j (by rw [HL.out]; omega)
      have HST := Lib.hid ((hrow.set k (xs.getD (xs.length - 1 - k) 0) (by rw [HL.out]; omega)).set (xs.length - 1 - k) (xs.getD k 0) (by rw [List.length_set, HL.out, HN.out]; omega))
      have HX := Lib.hid (revTo_step xs k (by rw [HN.out]; omega))
      have HJ := Lib.hid hj
      have HJI := Lib.hid hji
      clear hj hji
      have i1 : (k : Int) < (n : Int) := by omega
      have i2 : (j : Int) < (n : Int) := by omega
      go_wp2
      go_region
      go_wp2
      have hst := HST.out
      rw [HX.out] at hst
      have e : xs.length - 1 - k = j := by rw [HN.out]; exact HJ.out.symm
      rw [e, List.getD_eq_getElem?_getD, List.getD_eq_getElem?_getD] at hst
      go_roundw
      case rel =>
        exact ⟨k + 1, by omega, by go_num, by have := HJI.out; go_num, hst.drew, ((hb.setCell hfr _).setCell hfr _).drew⟩
      case measure => simp [intOf]; omega
    · go_wp2
      go_end0
      refine ⟨rfl, ?_, hb⟩
      rw [← revTo_full xs k (by rw [HN.out]; omega)]
      exact hrow
def backS (s : ByteArray) : ByteArray := strOf (turnS s).data.toList.reverse
def backV (s : ByteArray) : ByteArray := if pathB s then backS s else strOf []
theorem backV_is (s : ByteArray) : strOf (turnV s).data.toList.reverse = backV s := by
  unfold backV turnV
  split
  · rfl
  · rw [strOf_list]; rfl
theorem turnV_size (s : ByteArray) : (turnV s).size ≤ 40 := by
  unfold turnV
  split
  · rename_i h; rw [turnS_size]; exact ((pathB_iff s).1 h).1
  · rw [strOf_size]; simp
set_option maxHeartbeats 400000 in
theorem back_ret (s : ByteArray) (w : World) (hs : s.size ≤ maxLen) : Calls Try.prog 19 #[.string s] w (Ret w (.tuple #[.string (backV s), .bool (pathB s)])) := by
  rw [← backV_is]
  have h40 := turnV_size s
  go_enter Try.func19, Try.ntmps19
  go_wp2_with fail
  refine (turn_ret s _ hs).mono ?_
  rintro e w1 ⟨rfl, hb1⟩
  generalize turnV s = t at *
  have hby := run_bytes t
  go_wp2_with fail
  clear hby
  have hr2 := BRow.of_bs w1 t
  have hb2 := bsWorld_below w1 t
  generalize bsWorld w1 t = w2 at *
  generalize bsCap w1 t = c2 at *
  have hl : t.data.toList.length = t.size := by simp
  have hrev := reverse_any t.data.toList w1.heap.size w1.heap.size c2 w2 hr2 (by omega)
  rw [hl] at hrev
  refine hrev.mono ?_
  rintro e w3 ⟨rfl, hr3, hb3⟩
  have hcv := run_str_cells w3 w1.heap.size t.size c2 t.data.toList.reverse (by simp) hr3.cell
  go_wp2
  go_ret2
  exact ⟨rfl, (hb1.trans (hb2.mono hb1.size)).trans (hb3.mono hb1.size)⟩
set_option maxHeartbeats 400000 in
theorem specBack_ret (s : ByteArray) (w : World) (hs : s.size ≤ maxLen) : Calls Try.prog 18 #[.string s] w (Ret w (.tuple #[.string (backV s), .bool (pathB s)])) := by
  unfold backV
  rcases Bool.eq_false_or_eq_true (pathB s) with hp | hp
  · rw [hp, if_pos rfl]
    have h40 := ((pathB_iff s).1 hp).1
    have h41 : (turnS s).size ≤ 40 := by rw [turnS_size]; exact h40
    go_enter Try.func18, Try.ntmps18
    go_wp2_with (first | (go_at_call 43; refine (paGood_any s _ hs).mono ?_; rintro e w' ⟨rfl, rfl⟩) | (go_at_call 46; refine (paTurn_ret s _ h40).mono ?_; rintro e w1 ⟨rfl, hb⟩) | (go_at_call 49; refine (paReverse_ret (turnS s) _ h41).mono ?_; rintro e w2 ⟨rfl, hb2⟩))
    go_ret2
    exact ⟨rfl, hb.trans (hb2.mono hb.size)⟩
  · rw [hp]
    go_enter Try.func18, Try.ntmps18
    go_wp2_with (go_at_call 43; refine (paGood_any s _ hs).mono ?_; rintro e w' ⟨rfl, rfl⟩)
    go_ret2
    exact ⟨rfl, Below.refl _ _⟩
end Go.Proofs.Ytdekjmbbogddgab
