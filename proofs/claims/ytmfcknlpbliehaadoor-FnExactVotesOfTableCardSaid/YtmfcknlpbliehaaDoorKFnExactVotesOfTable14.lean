/- Pack 14 of what FnExactVotesOfTable needs: LeastMost, VoS. -/
import Derived.Test.YtmfcknlpbliehaaDoorKFnExactVotesOfTable13
/- l1Least, l1Most. -/
namespace Go.Proofs.YtmfcknlpbliehaaDoor
open Go.RowKit
theorem least_any (a b : Int) (w : World) : Calls Tryd.prog 30 #[.int .i64 a, .int .i64 b] w fun e w' => e = .returned (.int .i64 (if b < a then b else a)) ∧ w = w' := by
  by_cases h : a < b
  · rw [if_neg (by omega)]
    go_enter Tryd.func30, Tryd.ntmps30
    go_wp2
    go_ret
    exact ⟨rfl, rfl⟩
  · have e : (if b < a then b else a) = b := by split <;> omega
    rw [e]
    clear e
    go_enter Tryd.func30, Tryd.ntmps30
    go_wp2
    go_ret
    exact ⟨rfl, rfl⟩
end Go.Proofs.YtmfcknlpbliehaaDoor

/- The model's functions on votes. -/
namespace Go.Proofs.YtmfcknlpbliehaaDoor
open Go.RowKit
set_option linter.unusedVariables false
def UpV (s : ByteArray) (k : Nat) : Prop := ∀ j (h : j < s.size), j < k → isV s[j] = true
theorem UpV.zero (s : ByteArray) : UpV s 0 := fun _ _ h => absurd h (by omega)
theorem UpV.succ {s : ByteArray} {k : Nat} (h : UpV s k) (hk : k < s.size) (hu : isV s[k] = true) : UpV s (k + 1) := fun j hj hl => by
  by_cases e : j = k
  · subst e; exact hu
  · exact h j hj (by omega)
theorem UpV.full {s : ByteArray} {k : Nat} (h : UpV s k) (hk : k = s.size) (h16 : s.size ≤ 16) : votB s = true :=
  (votB_iff s).2 ⟨h16, fun j hj => h j hj (by omega)⟩
theorem votB_no {s : ByteArray} {k : Nat} (hk : k < s.size) (hu : isV s[k] = false) : votB s = false := by
  rw [Bool.eq_false_iff]
  intro h
  rw [((votB_iff s).1 h).2 k hk] at hu
  exact absurd hu (by simp)
theorem votB_long {s : ByteArray} (h : ¬ s.size ≤ 16) : votB s = false := by unfold votB; rw [decide_eq_false h]; rfl
set_option maxHeartbeats 400000 in
theorem voGood_any (s : ByteArray) (w : World) (hs : s.size ≤ maxLen) : Calls Tryd.prog 12 #[.string s] w fun e w' => e = .returned (.bool (votB s)) ∧ w = w' := by
  unfold maxLen at hs
  by_cases h16 : 16 < s.size
  · rw [votB_long (by omega)]
    go_enter Tryd.func12, Tryd.ntmps12
    go_wp2
    go_ret
    exact ⟨rfl, rfl⟩
  · go_enter Tryd.func12, Tryd.ntmps12
    go_wp2
    go_loop [3] (fun i => ∃ k : Nat, k ≤ s.size ∧ i = .int .i64 k ∧ Hid (UpV s k)) (fun i => s.size - (intOf i).toNat)
    case atStart => exact ⟨0, Nat.zero_le _, rfl, Lib.hid (UpV.zero s)⟩
    case round =>
      obtain ⟨k, hk, rfl, hu⟩ := hrel
      by_cases hlt : k < s.size
      · by_cases c1 : (s[k].toNat : Int) < 97
        · have HN := Lib.hid (votB_no hlt (by unfold isV; rw [decide_eq_false (by omega)]; rfl))
          go_wp2
          go_ret
          exact ⟨ret_bool HN.out.symm, rfl⟩
        · by_cases c2 : 100 < (s[k].toNat : Int)
          · have HN := Lib.hid (votB_no hlt (by unfold isV; rw [decide_eq_false (show ¬ s[k].toNat ≤ 100 by omega), Bool.and_false]))
            go_wp2
            go_ret
            exact ⟨ret_bool HN.out.symm, rfl⟩
          · have HN : Hid (UpV s (k + 1)) := Lib.hid (hu.out.succ hlt ((isV_iff _).2 (by omega)))
            go_wp2
            go_round
            case rel => exact ⟨k + 1, by omega, by go_num, HN⟩
            case measure => simp [intOf]; omega
      · have HF := Lib.hid (hu.out.full (by omega) (by omega))
        go_wp2
        go_ret
        exact ⟨ret_bool HF.out.symm, rfl⟩
/-- a new row with the counts of the first k votes -/
def CntNew (s : ByteArray) (w : World) (e : Ending) (w' : World) : Prop := ∃ v, e = .returned v ∧ IRow w' w.heap.size v (vcL s s.size) ∧ Below w.heap.size w w'
set_option maxRecDepth 100000 in
set_option maxHeartbeats 800000 in
theorem voCounts_any (s : ByteArray) (w : World) (hv : votB s = true) : Calls Tryd.prog 14 #[.string s] w (CntNew s w) := by
  obtain ⟨i0, hi0, hz0, hz1, hz2⟩ := info_parts intInfo
  have h16 := ((votB_iff s).1 hv).1
  have HV := Lib.hid hv
  clear hv
  go_enter Tryd.func14, Tryd.ntmps14
  go_wp2_with (refine wpList_make_full _ rfl (.const (.int .i64 4)) (.const (.int .i64 4)) 33 rfl w.heap.size 3 i0 (.int .i64 0) 1 Tryd.underlying33 hi0 hz0 hz1 .i64 .i64 _ _ 4 rfl rfl (by omega) (by omega) (by rw [hz2]; omega) (by unfold maxLen; omega) (Nat.le_refl _) ?_; intro w2 hown1 hgrow1)
  have hrow1 : IRow w2 w.heap.size (.slice (some ⟨w.heap.size, 0, none⟩) 4 4) (vcL s 0) :=
    IRow.of_own hown1 rfl (by rw [vcL_zero, madeOne _ rfl]; simp)
  have hb2 : Below w.heap.size w w2 := (Below.refl _ _).grown hgrow1 (Nat.le_refl _) (by simp)
  clear hown1 hgrow1
  go_loopw [4] (fun i wr => ∃ k : Nat, k ≤ s.size ∧ i = .int .i64 (k : Int) ∧ IRow wr w.heap.size (.slice (some ⟨w.heap.size, 0, none⟩) 4 4) (vcL s k) ∧ Below w.heap.size w wr) (fun i _ => s.size - (intOf i).toNat)
  case atStart => exact ⟨0, Nat.zero_le _, rfl, hrow1, hb2⟩
  case round =>
    obtain ⟨k, hk, rfl, hrow, hb⟩ := hrel
    clear hrow1 hb2
    by_cases hlt : k < s.size
    · obtain ⟨hbyte, hc4⟩ := cd_at HV.out hlt
      have hle := vc_le s (cd s k) k
      have HSET := Lib.hid (vcL_set s k hc4)
      have hcell := hrow.cell (j := cd s k) (by rw [vcL_len]; exact hc4)
      rw [vcL_get s k _ hc4] at hcell
      have hfree := hrow.free (cd s k)
      have hst := (hrow.set (cd s k) (((vc s (cd s k) k : Nat) : Int) + 1)).1
      rw [HSET.out] at hst
      have HST := Lib.hid hst
      have HBS := Lib.hid (hb.setCell (p := ⟨w.heap.size, cd s k, none⟩) (Nat.le_refl _) (.int .i64 (((vc s (cd s k) k : Nat) : Int) + 1)))
      clear hst hrow hb HSET
      generalize vc s (cd s k) k = x at *
      generalize cd s k = c at *
      have i9 : IntKind.u8.wrap (97 + (c : Int) - 97) = c := by rw [show 97 + (c : Int) - 97 = c by omega]; exact IntWalk.u8_in _ (by omega)
      go_wp2
      go_roundw
      case rel => exact ⟨k + 1, by omega, by go_num, HST.out, HBS.out⟩
      case measure => simp [intOf]; omega
    · obtain rfl : k = s.size := by omega
      have HR := Lib.hid hrow
      clear hrow
      go_wp2
      go_ret
      exact ⟨_, rfl, HR.out, hb⟩
def f4 (x0 x1 x2 x3 : Int) : Bool := decide (x1 ≤ x0) && decide (x2 ≤ x1) && decide (x3 ≤ x2)
set_option maxRecDepth 100000 in
set_option maxHeartbeats 800000 in
theorem voFalls_any (v : Value) (x0 x1 x2 x3 : Int) (w : World) (h : RInts w v [x0, x1, x2, x3]) : Calls Tryd.prog 29 #[v] w fun e w' => e = .returned (.bool (f4 x0 x1 x2 x3)) ∧ Below w.heap.size w w' := by
  obtain ⟨g, o, c, rfl, hg, hcells⟩ := h.cells (by simp)
  have c0 := hcells 0 (by simp)
  have c1 := hcells 1 (by simp)
  have c2 := hcells 2 (by simp)
  have c3 := hcells 3 (by simp)
  simp at c0 c1 c2 c3
  clear hcells h
  have HF : Hid (f4 x0 x1 x2 x3 = (decide (x1 ≤ x0) && decide (x2 ≤ x1) && decide (x3 ≤ x2))) := Lib.hid rfl
  generalize f4 x0 x1 x2 x3 = fb at *
  by_cases h1 : x0 < x1
  · have HB : Hid (fb = false) := Lib.hid (by rw [HF.out, decide_eq_false (by omega)]; rfl)
    clear HF
    go_enter Tryd.func29, Tryd.ntmps29
    go_wp2
    refine wp_loop_rounds 1 ?_
    iterate 1 (rw [rounds_succ]; go_wp2; go_region; go_wp2)
    go_ret
    exact ⟨ret_bool HB.out.symm, below_drewN (Below.refl _ _) 1⟩
  · by_cases h2 : x1 < x2
    · have HB : Hid (fb = false) := Lib.hid (by rw [HF.out, decide_eq_false (show ¬ x2 ≤ x1 by omega), Bool.and_false]; rfl)
      clear HF
      go_enter Tryd.func29, Tryd.ntmps29
      go_wp2
      refine wp_loop_rounds 2 ?_
      iterate 2 (rw [rounds_succ]; go_wp2; go_region; go_wp2)
      go_ret
      exact ⟨ret_bool HB.out.symm, below_drewN (Below.refl _ _) 2⟩
    · by_cases h3 : x2 < x3
      · have HB : Hid (fb = false) := Lib.hid (by rw [HF.out, decide_eq_false (show ¬ x3 ≤ x2 by omega), Bool.and_false])
        clear HF
        go_enter Tryd.func29, Tryd.ntmps29
        go_wp2
        refine wp_loop_rounds 3 ?_
        iterate 3 (rw [rounds_succ]; go_wp2; go_region; go_wp2)
        go_ret
        exact ⟨ret_bool HB.out.symm, below_drewN (Below.refl _ _) 3⟩
      · have HB : Hid (fb = true) := Lib.hid (by rw [HF.out, decide_eq_true (show x1 ≤ x0 by omega), decide_eq_true (show x2 ≤ x1 by omega), decide_eq_true (show x3 ≤ x2 by omega)]; rfl)
        clear HF
        go_enter Tryd.func29, Tryd.ntmps29
        go_wp2
        refine wp_loop_rounds 4 ?_
        iterate 3 (rw [rounds_succ]; go_wp2; go_region; go_wp2)
        rw [rounds_succ]
        go_wp2
        go_ret
        exact ⟨ret_bool HB.out.symm, below_drewN (Below.refl _ _) 3⟩
end Go.Proofs.YtmfcknlpbliehaaDoor
