/- Returns of a path. -/
import Derived.Test.YtnlmjeakdjmohaaScalars
namespace Go.Proofs.Ytnlmjeakdjmohaa
open Go.RowKit
def retAt (s : ByteArray) (k : Nat) : Bool := decide (0 < k) && (hAt s k == 0)
def retsTo (s : ByteArray) : Nat → List Int
  | 0 => []
  | k + 1 => if retAt s k then retsTo s k ++ [(k : Int)] else retsTo s k
theorem retsTo_len (s : ByteArray) : ∀ k, (retsTo s k).length ≤ k := by
  intro k
  induction k with
  | zero => simp [retsTo]
  | succ k ih => unfold retsTo; split
                 · rw [List.length_append]; simp; omega
                 · omega
theorem retsTo_yes {s : ByteArray} {k : Nat} (h : retAt s k = true) : retsTo s (k + 1) = retsTo s k ++ [(k : Int)] := by rw [retsTo, if_pos h]
theorem retsTo_no {s : ByteArray} {k : Nat} (h : retAt s k = false) : retsTo s (k + 1) = retsTo s k := by rw [retsTo, h]; rfl
theorem rt_yes {s : ByteArray} {k : Nat} (h1 : 0 < k) (h2 : (hAt s k == 0) = true) : retAt s k = true := by unfold retAt; rw [h2, decide_eq_true h1]; rfl
theorem rt_no2 {s : ByteArray} {k : Nat} (h2 : (hAt s k == 0) = false) : retAt s k = false := by unfold retAt; rw [h2, Bool.and_false]
theorem rt_no1 {s : ByteArray} {k : Nat} (h1 : ¬ 0 < k) : retAt s k = false := by unfold retAt; rw [decide_eq_false h1]; rfl
def retsV (s : ByteArray) : List Int := if pathB s then retsTo s (s.size + 1) else []
theorem retsV_len (s : ByteArray) (h : ¬ 1048576 < s.size) : (retsV s).length ≤ 1048577 := by
  unfold retsV; split
  · have := retsTo_len s (s.size + 1); omega
  · simp
set_option maxHeartbeats 400000 in
theorem paReturns_ret (s : ByteArray) (w : World) (hp : pathB s = true) : Calls Try.prog 104 #[.string s] w (IntsNew w (retsTo s (s.size + 1))) := by
    have HP := Lib.hid hp
    have h40 := ((pathB_iff s).1 hp).1
    clear hp
    go_enter Try.func104, Try.ntmps104
    go_wp2_with (go_at_call 99; refine (paHeights_any s _ HP.out).mono ?_; rintro e w1 ⟨v, rfl, hr, hb⟩; obtain ⟨g, c, rfl, hgB, hgl⟩ := hr.form' (hts_length s) (by omega))
    have hr2 := Lib.hid hr
    have hsz1 := hb.size
    go_loopw [3, 9] (fun v i wr => ∃ k : Nat, k ≤ s.size + 1 ∧ i = .int .i64 (k : Int) ∧ IRow wr w1.heap.size v (retsTo s k) ∧ Below w1.heap.size w1 wr) (fun _ i _ => s.size + 1 - (intOf i).toNat)
    case atStart => exact ⟨0, Nat.zero_le _, rfl, IRow.nil _ _, Below.refl _ _⟩
    case round =>
      obtain ⟨k, hk, rfl, hrow, hbr⟩ := hrel
      by_cases hlt : k < s.size + 1
      · have hc : wr.cell? ⟨g, k, none⟩ = some (.int .i64 (hAt s k)) := (hbr.cell (p := ⟨g, k, none⟩) hgl).trans (hts_at hr2.out k (by omega))
        have hle := retsTo_len s k
        have hsz := hbr.size
        go_wp2_with (at_builtin; refine wpList_push (.tmp 20) (.tmp 22) rfl rfl w1.heap.size _ (retsTo s k) rfl hrow rfl (by omega) hsz ?_; intro v' w' hrow' hg' hat')
        · go_roundw
          case rel => exact ⟨k + 1, by omega, by go_num, by rw [retsTo_yes (rt_yes (by assumption) (by assumption))]; exact hrow', hbr.grown hg' hsz (fun j hj => (hrow.blk j hj).1)⟩
          case measure => simp [intOf]; omega
        · go_roundw
          case rel => exact ⟨k + 1, by omega, by go_num, by rw [retsTo_no (rt_no2 (by assumption))]; exact hrow, hbr⟩
          case measure => simp [intOf]; omega
        · go_roundw
          case rel => exact ⟨k + 1, by omega, by go_num, by rw [retsTo_no (rt_no1 (by assumption))]; exact hrow, hbr⟩
          case measure => simp [intOf]; omega
      · go_wp2
        obtain rfl : k = s.size + 1 := by omega
        go_ret
        exact ⟨_, rfl, hrow.mono hsz1, hb.trans (hbr.mono hsz1)⟩
end Go.Proofs.Ytnlmjeakdjmohaa
