/- Pack 6 of what FnPathsReflected needs: Heights, Scalars. -/
import Derived.Test.YtachijliaedndaaKFnPathsReflected5
import Derived.StillTailTactics
/- HeightsOf (impl) and paHeights (spec). -/
namespace Go.Proofs.Ytachijliaedndaa
open Go.RowKit

theorem climb_any (x : Int) (w : World) :
    Calls Try.prog 151 #[.int .u8 x] w fun e w' => e = .returned (.int .i64 (stepZ x)) ∧ w = w' := by
  by_cases h : x = 85
  · subst h
    go_enter Try.func151, Try.ntmps151
    go_wp2
    go_ret
    exact ⟨by simp [stepZ], rfl⟩
  · go_enter Try.func151, Try.ntmps151
    go_wp2
    go_ret
    exact ⟨by simp [stepZ, h], rfl⟩

set_option maxHeartbeats 400000 in
theorem heights_no (s : ByteArray) (w : World) (hs : s.size ≤ maxLen) (hp : pathB s = false) :
    Calls Try.prog 19 #[.string s] w (IntsNo w) := by
  go_enter Try.func19, Try.ntmps19
  go_wp2_with (go_at_call 58; refine (isPath_any s _ hs).mono ?_; rintro e w' ⟨rfl, rfl⟩)
  go_ret2
  exact ⟨rfl, rfl⟩

set_option maxRecDepth 100000 in
set_option maxHeartbeats 400000 in
theorem heights_any (s : ByteArray) (w : World) (hs : s.size ≤ maxLen) (hp : pathB s = true) :
    Calls Try.prog 19 #[.string s] w (IntsOk w (hts s)) := by
  have h40 := ((pathB_iff s).1 hp).1
  obtain ⟨i0, hi, hz0, hz1, hz2⟩ := info_parts intInfo
  go_enter Try.func19, Try.ntmps19
  go_wp2_with (first | (go_at_call 58; refine (isPath_any s _ hs).mono ?_; rintro e w' ⟨rfl, rfl⟩) | (refine wpList_make_full _ rfl (.tmp 11) (.tmp 11) 30 rfl w.heap.size 3 i0 (.int .i64 0) 1 Try.underlying30 hi hz0 hz1 .i64 .i64 _ _ (s.size + 1) rfl rfl (by omega) (by omega) (by rw [hz2]; omega) (by unfold maxLen; omega) (Nat.le_refl _) ?_; intro w1 hown1 hgrow1))
  have hrow1 : IRow w1 w.heap.size (.slice (some ⟨w.heap.size, 0, none⟩) (s.size + 1) (s.size + 1)) (filled s 0) :=
    IRow.of_own hown1 (by simp [filled_length]) (by rw [filled_zero, madeOne _ rfl]; simp)
  have hb1 : Below w.heap.size w w1 := (Below.refl _ _).grown hgrow1 (Nat.le_refl _) (by simp)
  clear hown1 hgrow1
  go_loopw [15] (fun i wr => ∃ k : Nat, k ≤ s.size ∧ i = .int .i64 k ∧ IRow wr w.heap.size (.slice (some ⟨w.heap.size, 0, none⟩) (s.size + 1) (s.size + 1)) (filled s k) ∧ Below w.heap.size w wr) (fun i _ => s.size - (intOf i).toNat)
  case atStart => exact ⟨0, Nat.zero_le _, rfl, hrow1, hb1⟩
  case round =>
    obtain ⟨k, hk, rfl, hrow, hb⟩ := hrel
    by_cases hlt : k < s.size
    · have hc : wr.cell? ⟨w.heap.size, k, none⟩ = some (.int .i64 (hAt s k)) := by
        have := hrow.cell (j := k) (by rw [filled_length]; omega)
        rw [List.getD_eq_getElem?_getD, filled_get s k k hk] at this
        simpa using this
      have hc' : wr.cell? ⟨w.heap.size, k + 1, none⟩ = some (.int .i64 0) := by
        have := hrow.cell (j := k + 1) (by rw [filled_length]; omega)
        rw [List.getD_eq_getElem?_getD, filled_get s k (k + 1) (by omega), if_neg (by omega)] at this
        simpa using this
      have hf := hrow.free (k + 1)
      have hbd := hAt_bd s k hk
      have i1 : (k : Int) < (s.size : Int) + 1 := by omega
      have i2 : (k : Int) < (s.size : Int) := by omega
      go_wp2
      have i3 : 0 ≤ (k : Int) + 1 := by omega
      have i4 : IntKind.i64.wrap ((k : Int) + 1) = (k : Int) + 1 := IntWalk.i64_in _ (by omega)
      refine wp_region_still_tail 13 (by kernel_rfl) (by kernel_rfl) ?_
      simp only [List.take_succ_cons, List.take_zero, List.drop_succ_cons, List.drop_zero]
      iterate 10 still_step
      still_call (still (climb_any _ _))
      iterate 2 still_step
      refine wpStill_nil ?_
      change wpList _ _ _ _ _ wr.drew
      clear i4
      go_wp2
      have hsb := stepZ_bd (s[k].toNat : Int)
      have hst := hrow.set (k + 1) (hAt s (k + 1))
      have hw : wrap64 (hAt s k + stepZ (s[k].toNat : Int)) = hAt s (k + 1) := by
        rw [hAt_succ s k hlt]; exact IntWalk.wrap64_in _ (by omega)
      rw [hw]
      go_roundw
      case rel => exact ⟨k + 1, by omega, by go_num, by rw [← filled_set]; exact hst.1.drew, (hb.setCell (Nat.le_refl _) _).drew⟩
      case measure => simp [intOf]; omega
    · go_wp2
      obtain rfl : k = s.size := by omega
      go_ret2
      exact ⟨_, rfl, by rw [← filled_full]; exact hrow, hb⟩

theorem stepI_68 {c : UInt8} (h : ((c.toNat : Int) == 68) = true) : stepI c = -1 := by
  simp at h; unfold stepI stepZ; rw [if_neg (by omega)]
theorem stepI_85 {c : UInt8} (hu : isUD c = true) (h : ((c.toNat : Int) == 68) = false) : stepI c = 1 := by
  rw [isUD_int, h] at hu; simp at hu; unfold stepI stepZ; rw [if_pos (by omega)]
theorem first_row {s : ByteArray} (w : World) : IRow (w.alloc (.cells #[.int .i64 0] 3)) w.heap.size (.slice (some ⟨w.heap.size, 0, none⟩) 1 1) (htsTo s 0) :=
  IRow.of_own (World.ownsRow_lit w #[.int .i64 0] 1 (Nat.le_refl _) (by simp [maxLen]) rfl) (by simp [htsTo]) (by simp [htsTo, hAt_zero])

set_option maxRecDepth 100000 in
set_option maxHeartbeats 800000 in
theorem paHeights_any (s : ByteArray) (w : World) (hp : pathB s = true) :
    Calls Try.prog 150 #[.string s] w (IntsNew w (hts s)) := by
  have h40 := ((pathB_iff s).1 hp).1
  obtain ⟨i0, hi, hz0, hz1, hz2⟩ := info_parts intInfo
  go_enter Try.func150, Try.ntmps150
  go_wp2
  go_loopw [3, 4] (fun v i wr => ∃ k : Nat, k ≤ s.size ∧ i = .int .i64 k ∧ IRow wr w.heap.size v (htsTo s k) ∧ Below w.heap.size w wr) (fun _ i _ => s.size - (intOf i).toNat)
  case atStart => exact ⟨0, Nat.zero_le _, rfl, first_row w, (Below.refl _ _).alloc (Nat.le_refl _) _⟩
  case round =>
    obtain ⟨k, hk, rfl, hrow, hb⟩ := hrel
    by_cases hlt : k < s.size
    · obtain ⟨g, c, rfl, hgB, hgl⟩ := hrow.form' (htsTo_length s k) (by omega)
      have hc := hrow.cell (j := k) (by rw [htsTo_length]; omega)
      rw [htsTo_last] at hc
      have hbd := hAt_bd s k hk
      have i1 : (k : Int) < (k : Int) + 1 := by omega
      have hll := htsTo_length s k
      have HS := Lib.hid (hAt_succ s k hlt)
      have HU := Lib.hid (((pathB_iff s).1 hp).2 k hlt)
      have hsz := hb.size
      go_wp2_with (at_builtin; refine wpList_push (.tmp 27) (.tmp 29) rfl rfl w.heap.size _ (htsTo s k) rfl hrow rfl (by omega) hsz ?_; intro v' w' hrow' hg' hat')
      all_goals
        have hx : IRow w' w.heap.size v' (htsTo s (k + 1)) := by
          rw [← htsTo_snoc, HS.out]
          first
            | (rw [stepI_68 (by assumption)]; exact hrow')
            | (rw [stepI_85 HU.out (by assumption)]; exact hrow')
        go_roundw
        case rel => exact ⟨k + 1, by omega, by go_num, hx, hb.grown hg' hsz (by intro j hj; cases hj; omega)⟩
        case measure => simp [intOf]; omega
    · go_wp2
      obtain rfl : k = s.size := by omega
      go_ret
      exact ⟨_, rfl, hrow, hb⟩
end Go.Proofs.Ytachijliaedndaa

/- The functions that hand back one number of a path: ends, least and greatest heights, sums. -/
namespace Go.Proofs.Ytachijliaedndaa
open Go.RowKit

theorem hts_at {s : ByteArray} {w : World} {B g n c : Nat} (h : IRow w B (.slice (some ⟨g, 0, none⟩) n c) (hts s)) (j : Nat) (hj : j ≤ s.size) : w.cell? ⟨g, j, none⟩ = some (.int .i64 (hAt s j)) := by
  have := h.cell (j := j) (by rw [hts_length]; omega)
  rw [List.getD_eq_getElem?_getD, hts_get s j hj] at this
  exact this

/-! ### the end -/
def endV (s : ByteArray) : Int := if pathB s then hAt s s.size else 0
set_option maxHeartbeats 400000 in
theorem endHeight_ret (s : ByteArray) (w : World) (hs : s.size ≤ maxLen) : Calls Try.prog 20 #[.string s] w (Ret w (.tuple #[.int .i64 (endV s), .bool (pathB s)])) := by
  unfold endV
  rcases Bool.eq_false_or_eq_true (pathB s) with hp | hp
  · rw [hp, if_pos rfl]
    have HP := Lib.hid hp
    have h40 := ((pathB_iff s).1 hp).1
    clear hp
    go_enter Try.func20, Try.ntmps20
    go_wp2_with ((go_at_call 19; refine (heights_any s _ hs HP.out).mono ?_; rintro e w1 ⟨v, rfl, hr, hb⟩; obtain ⟨g, c, rfl, hgB, hgl⟩ := hr.form' (hts_length s) (by omega)); have hc := hts_at hr s.size (Nat.le_refl _))
    go_ret2
    exact ⟨rfl, hb⟩
  · rw [hp]
    go_enter Try.func20, Try.ntmps20
    go_wp2_with (go_at_call 19; refine (heights_no s _ hs hp).mono ?_; rintro e w' ⟨rfl, rfl⟩)
    go_ret2
    exact ⟨rfl, Below.refl _ _⟩
set_option maxHeartbeats 400000 in
theorem paEnd_ret (s : ByteArray) (w : World) (hp : pathB s = true) : Calls Try.prog 156 #[.string s] w (Ret w (.int .i64 (hAt s s.size))) := by
  have HP := Lib.hid hp
  have h40 := ((pathB_iff s).1 hp).1
  clear hp
  go_enter Try.func156, Try.ntmps156
  go_wp2_with ((go_at_call 150; refine (paHeights_any s _ HP.out).mono ?_; rintro e w1 ⟨v, rfl, hr, hb⟩; obtain ⟨g, c, rfl, hgB, hgl⟩ := hr.form' (hts_length s) (by omega)); have hc := hts_at hr s.size (Nat.le_refl _))
  go_ret
  exact ⟨rfl, hb⟩
/-! ### the least, the greatest -/
def minTo (s : ByteArray) : Nat → Int
  | 0 => 0
  | k + 1 => if hAt s (k + 1) < minTo s k then hAt s (k + 1) else minTo s k
def maxTo (s : ByteArray) : Nat → Int
  | 0 => 0
  | k + 1 => if maxTo s k < hAt s (k + 1) then hAt s (k + 1) else maxTo s k
theorem minTo_bd (s : ByteArray) : ∀ k, k ≤ s.size → -(k : Int) ≤ minTo s k ∧ minTo s k ≤ 0 := by
  intro k
  induction k with
  | zero => intro _; simp [minTo]
  | succ k ih =>
    intro h
    have h1 := ih (by omega)
    have h2 := hAt_bd s (k + 1) h
    unfold minTo
    split <;> omega
set_option maxHeartbeats 400000 in
theorem min_ret (s : ByteArray) (w : World) (g c : Nat) (h40 : s.size ≤ 40) (B : Nat) (hr : IRow w B (.slice (some ⟨g, 0, none⟩) (s.size + 1) c) (hts s)) :
    Calls Try.prog 245 #[.slice (some ⟨g, 0, none⟩) (s.size + 1) c] w fun e w' => e = .returned (.int .i64 (minTo s s.size)) ∧ w = w' := by
  have hc0 := hts_at hr 0 (by omega)
  have i0 : ¬ (s.size : Int) + 1 < 1 := by omega
  go_enter Try.func245, Try.ntmps245
  go_wp2
  go_loop [3, 4] (fun u i => ∃ k : Nat, k ≤ s.size ∧ i = .int .i64 ((k : Int) + 1) ∧ u = .int .i64 (minTo s k)) (fun _ i => s.size + 1 - (intOf i).toNat)
  case atStart => exact ⟨0, Nat.zero_le _, rfl, by rw [hAt_zero]; rfl⟩
  case round =>
    obtain ⟨k, hk, rfl, rfl⟩ := hrel
    by_cases hlt : k < s.size
    · have hc := hts_at hr (k + 1) (by omega)
      go_wp2
      go_round
      case rel => exact ⟨k + 1, by omega, by go_num, rfl⟩
      case measure => simp [intOf]; omega
    · go_wp2
      obtain rfl : k = s.size := by omega
      go_ret
      exact ⟨rfl, rfl⟩

def lowV (s : ByteArray) : Int := if pathB s then minTo s s.size else 0
set_option maxHeartbeats 400000 in
theorem lowestOf_ret (s : ByteArray) (w : World) (hs : s.size ≤ maxLen) : Calls Try.prog 158 #[.string s] w (Ret w (.tuple #[.int .i64 (lowV s), .bool (pathB s)])) := by
  unfold lowV
  rcases Bool.eq_false_or_eq_true (pathB s) with hp | hp
  · rw [hp, if_pos rfl]
    have HP := Lib.hid hp
    have h40 := ((pathB_iff s).1 hp).1
    clear hp
    go_enter Try.func158, Try.ntmps158
    go_wp2_with (first | (go_at_call 19; refine (heights_any s _ hs HP.out).mono ?_; rintro e w1 ⟨v, rfl, hr, hb⟩; obtain ⟨g, c, rfl, hgB, hgl⟩ := hr.form' (hts_length s) (by omega)) | (go_at_call 245; refine (min_ret s _ g c h40 _ hr).mono ?_; rintro e w' ⟨rfl, rfl⟩))
    go_ret2
    exact ⟨rfl, hb⟩
  · rw [hp]
    go_enter Try.func158, Try.ntmps158
    go_wp2_with (go_at_call 19; refine (heights_no s _ hs hp).mono ?_; rintro e w' ⟨rfl, rfl⟩)
    go_ret2
    exact ⟨rfl, Below.refl _ _⟩
set_option maxHeartbeats 400000 in
theorem paLow_ret (s : ByteArray) (w : World) (hp : pathB s = true) : Calls Try.prog 157 #[.string s] w (Ret w (.int .i64 (minTo s s.size))) := by
  have HP := Lib.hid hp
  have h40 := ((pathB_iff s).1 hp).1
  clear hp
  go_enter Try.func157, Try.ntmps157
  go_wp2_with (go_at_call 150; refine (paHeights_any s _ HP.out).mono ?_; rintro e w1 ⟨v, rfl, hr, hb⟩; obtain ⟨g, c, rfl, hgB, hgl⟩ := hr.form' (hts_length s) (by omega))
  go_loop [3, 9] (fun u i => ∃ k : Nat, k ≤ s.size + 1 ∧ i = .int .i64 (k : Int) ∧ u = .int .i64 (minTo s (k - 1))) (fun _ i => s.size + 1 - (intOf i).toNat)
  case atStart => exact ⟨0, Nat.zero_le _, rfl, rfl⟩
  case round =>
    obtain ⟨k, hk, rfl, rfl⟩ := hrel
    by_cases hlt : k < s.size + 1
    · have hc := hts_at hr k (by omega)
      go_wp2_with (go_at_call 229; refine (least_any _ _ _).mono ?_; rintro e w' ⟨rfl, rfl⟩)
      go_round
      case rel => exact ⟨k + 1, by omega, by go_num, by
        cases k with
        | zero => simp [hAt_zero, minTo]
        | succ k => rfl⟩
      case measure => simp [intOf]; omega
    · go_wp2
      obtain rfl : k = s.size + 1 := by omega
      go_ret
      exact ⟨rfl, hb⟩
theorem lowV_yes {s : ByteArray} (h : pathB s = true) : lowV s = minTo s s.size := by unfold lowV; rw [if_pos h]
theorem lowV_no {s : ByteArray} (h : pathB s = false) : lowV s = 0 := by unfold lowV; rw [h]; rfl
theorem endV_yes {s : ByteArray} (h : pathB s = true) : endV s = hAt s s.size := by unfold endV; rw [if_pos h]
theorem endV_no {s : ByteArray} (h : pathB s = false) : endV s = 0 := by unfold endV; rw [h]; rfl
end Go.Proofs.Ytachijliaedndaa
