/- TurnPath: U and D exchanged. -/
import Derived.Test.YtlgiamgjimffnaaPathOk
import Derived.Test.YtlgiamgjimffnaaBytes
namespace Go.Proofs.Ytlgiamgjimffnaa
open Go.RowKit
def turnC (c : UInt8) : UInt8 := if c == 85 then 68 else 85
def otherZ (x : Int) : Int := if x = 85 then 68 else 85
theorem turnC_int (c : UInt8) : ((turnC c).toNat : Int) = otherZ (c.toNat : Int) := by
  unfold turnC otherZ
  have : (c == 85) = ((c.toNat : Int) == 85) := by
    rw [Bool.eq_iff_iff]; simp [← UInt8.toNat_inj]; omega
  rw [this]
  by_cases h : (c.toNat : Int) = 85
  · simp [h]
  · rw [if_neg (by simpa using h), if_neg h]; rfl
def turnL (l : List UInt8) : List UInt8 := l.map turnC
theorem turnL_length (l : List UInt8) : (turnL l).length = l.length := by simp [turnL]
/-- the first k turned, behind them what r holds -/
def turnTo (s : ByteArray) (r : List UInt8) (k : Nat) : List UInt8 := (turnL s.data.toList).take k ++ r.drop k
theorem turnTo_length (s : ByteArray) (r : List UInt8) (hr : r.length = s.size) (k : Nat) : (turnTo s r k).length = s.size := by
  simp [turnTo, turnL, hr]; omega
theorem turnTo_full (s : ByteArray) (r : List UInt8) (hr : r.length = s.size) : turnTo s r s.size = turnL s.data.toList := by
  unfold turnTo
  rw [List.take_of_length_le (by simp [turnL]), List.drop_of_length_le (by omega), List.append_nil]
theorem turnTo_set (s : ByteArray) (r : List UInt8) (hr : r.length = s.size) (k : Nat) (hk : k < s.size) : (turnTo s r k).set k (turnC s[k]) = turnTo s r (k + 1) := by
  have hl : s.data.toList.length = s.size := by simp
  have h1 : (turnL s.data.toList).length = s.size := by rw [turnL_length]; exact hl
  have e1 : (turnL s.data.toList).take (k + 1) = (turnL s.data.toList).take k ++ [turnC s[k]] := by
    rw [List.take_succ_eq_append_getElem (by omega)]
    simp [turnL]; rfl
  unfold turnTo
  rw [e1, List.set_append, List.length_take, if_neg (by omega)]
  have e2 : r.drop k = r[k]'(by omega) :: r.drop (k + 1) := List.drop_eq_getElem_cons (by omega)
  rw [e2, show k - min k (turnL s.data.toList).length = 0 by omega, List.set_cons_zero, List.append_assoc]
  rfl
theorem turnTo_at (s : ByteArray) (k : Nat) (hk : k < s.size) : (turnTo s s.data.toList k)[k]? = some s[k] := by
  have hl : s.data.toList.length = s.size := by simp
  have h1 : ((turnL s.data.toList).take k).length = k := by rw [List.length_take, turnL_length, hl]; omega
  unfold turnTo
  rw [List.getElem?_append_right (by omega), h1, Nat.sub_self, List.getElem?_drop, Nat.add_zero, List.getElem?_eq_getElem (by omega)]
  rfl
theorem other_any (x : Int) (w : World) : Calls Try.prog 138 #[.int .u8 x] w fun e w' => e = .returned (.int .u8 (otherZ x)) ∧ w = w' := by
  by_cases h : x = 85
  · subst h
    go_enter Try.func138, Try.ntmps138
    go_wp2
    go_ret
    exact ⟨rfl, rfl⟩
  · have e : otherZ x = 85 := by unfold otherZ; rw [if_neg h]
    rw [e]
    go_enter Try.func138, Try.ntmps138
    go_wp2
    go_ret
    exact ⟨rfl, rfl⟩
def turnS (s : ByteArray) : ByteArray := strOf (turnL s.data.toList)
theorem turnS_size (s : ByteArray) : (turnS s).size = s.size := by unfold turnS; rw [strOf_size, turnL_length]; simp
def turnV (s : ByteArray) : ByteArray := if pathB s then turnS s else strOf []
set_option maxHeartbeats 800000 in
theorem turn_yes (s : ByteArray) (w : World) (hs : s.size ≤ maxLen) (hp : pathB s = true) : Calls Try.prog 128 #[.string s] w (Ret w (.tuple #[.string (turnS s), .bool true])) := by
  have h40 := ((pathB_iff s).1 hp).1
  obtain ⟨i0, hi, hz0, hz1, hz2⟩ := info_parts bytInfo
  go_enter Try.func128, Try.ntmps128
  go_wp2_with (first | (go_at_call 118; refine (isPath_any s _ hs).mono ?_; rintro e w' ⟨rfl, rfl⟩) | (refine wpList_make_full _ rfl (.tmp 10) (.tmp 10) 89 rfl w.heap.size 5 i0 (.int .u8 0) 1 Try.underlying89 hi hz0 hz1 .i64 .i64 _ _ s.size rfl rfl (by omega) (by omega) (by rw [hz2]; omega) (by unfold maxLen; omega) (Nat.le_refl _) ?_; intro w1 hown1 hgrow1))
  have hrow1 : BOwn w1 w.heap.size (.slice (some ⟨w.heap.size, 0, none⟩) s.size s.size) (turnTo s (List.replicate s.size 0) 0) :=
    BOwn.of_own hown1 (by simp [turnTo]) (by rw [madeOne _ rfl]; simp [turnTo, bv])
  have hb1 : Below w.heap.size w w1 := (Below.refl _ _).grown hgrow1 (Nat.le_refl _) (by simp)
  clear hown1 hgrow1
  go_loopw [14] (fun i wr => ∃ k : Nat, k ≤ s.size ∧ i = .int .i64 k ∧ BOwn wr w.heap.size (.slice (some ⟨w.heap.size, 0, none⟩) s.size s.size) (turnTo s (List.replicate s.size 0) k) ∧ Below w.heap.size w wr) (fun i _ => s.size - (intOf i).toNat)
  case atStart => exact ⟨0, Nat.zero_le _, rfl, hrow1, hb1⟩
  case round =>
    obtain ⟨k, hk, rfl, hrow, hb⟩ := hrel
    by_cases hlt : k < s.size
    · have hc := hrow.cell (j := k) (by rw [turnTo_length _ _ (by simp)]; omega)
      have hf := hrow.free k
      have HST := Lib.hid (hrow.set k (turnC s[k]))
      go_wp2_with (go_at_call 138; refine (other_any _ _).mono ?_; rintro e w' ⟨rfl, rfl⟩)
      have hst := HST.out
      rw [turnC_int, turnTo_set _ _ (by simp) k hlt] at hst
      go_roundw
      case rel => exact ⟨k + 1, by omega, by go_num, hst.1, hb.setCell (Nat.le_refl _) _⟩
      case measure => simp [intOf]; omega
    · have HK : Hid (k = s.size) := by unfold Hid; omega
      have hcv := run_str_own hrow
      go_wp2
      go_ret2
      rw [HK.out, turnTo_full _ _ (by simp)]
      exact ⟨rfl, hb⟩
set_option maxHeartbeats 400000 in
theorem turn_ret (s : ByteArray) (w : World) (hs : s.size ≤ maxLen) : Calls Try.prog 128 #[.string s] w (Ret w (.tuple #[.string (turnV s), .bool (pathB s)])) := by
  unfold turnV
  rcases Bool.eq_false_or_eq_true (pathB s) with hp | hp
  · rw [hp, if_pos rfl]; exact turn_yes s w hs hp
  · rw [hp]
    go_enter Try.func128, Try.ntmps128
    go_wp2_with (go_at_call 118; refine (isPath_any s _ hs).mono ?_; rintro e w' ⟨rfl, rfl⟩)
    go_ret2
    exact ⟨rfl, Below.refl _ _⟩
theorem other_yes {x : Int} (h : (x == 85) = true) : otherZ x = 68 := by unfold otherZ; rw [if_pos (by simpa using h)]
theorem other_no {x : Int} (h : (x == 85) = false) : otherZ x = 85 := by unfold otherZ; rw [if_neg (by simpa using h)]
set_option maxHeartbeats 800000 in
theorem paTurn_ret (s : ByteArray) (w : World) (h40 : s.size ≤ 40) : Calls Try.prog 92 #[.string s] w (Ret w (.string (turnS s))) := by
  have hby := run_bytes s
  go_enter Try.func92, Try.ntmps92
  go_wp2
  have hrow1 := BRow.of_bs w s
  have hb1 := bsWorld_below w s
  clear hby
  generalize bsWorld w s = w1 at *
  generalize bsCap w s = c1 at *
  go_loopw [10] (fun i wr => ∃ k : Nat, k ≤ s.size ∧ i = .int .i64 k ∧ BRow wr w.heap.size w.heap.size (turnTo s s.data.toList k) ∧ Below w.heap.size w wr) (fun i _ => s.size - (intOf i).toNat)
  case atStart => exact ⟨0, Nat.zero_le _, rfl, by simpa [turnTo] using hrow1, hb1⟩
  case round =>
    obtain ⟨k, hk, rfl, hrow, hb⟩ := hrel
    have htl := turnTo_length s s.data.toList (by simp) k
    by_cases hlt : k < s.size
    · have hc := hrow.cell k (by omega)
      rw [(List.getElem_eq_iff (by omega)).2 (turnTo_at s k hlt)] at hc
      have hf := hrow.free k (by omega)
      have HST := Lib.hid (hrow.set k (turnC s[k]) (by omega))
      rw [turnTo_set _ _ (by simp) k hlt, turnC_int] at HST
      go_wp2
      all_goals
        have hz : otherZ (s[k].toNat : Int) = _ := (by first | exact other_yes (by assumption) | exact other_no (by assumption))
        have hst := HST
        rw [hz] at hst
        go_roundw
        case rel => exact ⟨k + 1, by omega, by go_num, hst, hb.setCell (Nat.le_refl _) _⟩
        case measure => simp [intOf]; omega
    · have HK : Hid (k = s.size) := by unfold Hid; omega
      have hcv := run_str_cells wr w.heap.size s.size c1 _ htl hrow.cell
      go_wp2
      go_ret
      rw [HK.out, turnTo_full _ _ (by simp)]
      exact ⟨rfl, hb⟩
end Go.Proofs.Ytlgiamgjimffnaa
