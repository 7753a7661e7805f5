/- TableOfVotes: the model. -/
import Derived.Test.YtnlcainfkchieaaDoorTPut
import Derived.Test.YtnlcainfkchieaaDoorVoS3
import Derived.Test.YtnlcainfkchieaaDoorTaMath
namespace Go.Proofs.YtnlcainfkchieaaDoor
open Go.RowKit
set_option linter.unusedVariables false
def taV (s : ByteArray) : List (List Int) := if oB s = true then tbS s s.size else []
theorem taV_len (s : ByteArray) : (taV s).length ≤ 4 := by unfold taV; split <;> simp [tbS]
theorem taV_flat (s : ByteArray) : (taV s).flatten.length ≤ 16 := by
  unfold taV
  split
  · rename_i h
    have hv := (oB_of h).1
    rw [tbS_size s hv]
    exact ((votB_iff s).1 hv).1
  · simp
set_option maxRecDepth 100000 in
set_option maxHeartbeats 1600000 in
theorem specTable_ret (s : ByteArray) (w : World) (hs : s.size ≤ maxLen) : Calls Tryd.prog 34 #[.string s] w (TabsRet w (oB s) (taV s)) := by
  obtain ⟨i0, hi0, hz0, hz1, hz2⟩ := info_parts vecInfo
  unfold taV
  rcases Bool.eq_false_or_eq_true (votB s) with hv | hv
  · have HG : Hid (∀ w, Calls Tryd.prog 47 #[.string s] w fun e w' => e = .returned (.bool true) ∧ w = w') := Lib.hid fun w => by have := voGood_any s w hs; rwa [hv] at this
    have HF : Hid (∀ w, Calls Tryd.prog 54 #[.string s] w (Ret w (.int .i64 (foI s)))) := Lib.hid fun w => voFirst_any s w hv
    have h16 := ((votB_iff s).1 hv).1
    by_cases h0 : foTo s s.size = 0
    · have HO : oB s = true := by unfold oB; rw [hv, decide_eq_true h0]; rfl
      have e : foI s = -1 := by unfold foI; rw [if_pos h0]
      rw [e] at HF
      rw [HO, if_pos rfl]
      have HCD := Lib.hid (fun k (hk : k < s.size) => cd_at hv hk)
      clear hv h0 HO e
      go_enter Tryd.func34, Tryd.ntmps34
      go_wp2_with (first | (go_at_call 47; refine (HG.out _).mono ?_; rintro e w' ⟨rfl, rfl⟩) | (go_at_call 54; refine (HF.out _).mono ?_; rintro e w1 ⟨rfl, hb1⟩) | (refine wpList_make_full _ rfl (.const (.int .i64 4)) (.const (.int .i64 4)) 39 rfl w.heap.size 23 i0 (.slice none 0 0) 1 Tryd.underlying39 hi0 hz0 hz1 .i64 .i64 _ _ 4 rfl rfl (by omega) (by omega) (by rw [hz2]; omega) (by unfold maxLen; omega) hb1.size ?_; intro w2 hown1 hgrow1))
      have hrow1 := TRow.made (by rw [show (List.replicate 4 (Value.slice none 0 0)) = (madeCells (Value.slice none 0 0).cells (4 * 1)).toList from (madeOne _ rfl 4).symm]; exact hown1)
      have hb2 : Below w.heap.size w w2 := hb1.grown hgrow1 hb1.size (by simp)
      clear hown1 hgrow1
      generalize w1.heap.size = g at *
      rw [← tbS_zero s] at hrow1
      go_loopw [5, 6] (fun i q wr => ∃ k : Nat, k ≤ s.size ∧ i = .int .i64 (k : Int) ∧ (∃ vs, TRow wr w.heap.size wr.heap.size (.slice (some ⟨g, 0, none⟩) 4 4) vs (tbS s k)) ∧ Below w.heap.size w wr) (fun i _ _ => s.size - (intOf i).toNat)
      case atStart => exact ⟨0, Nat.zero_le _, rfl, ⟨_, hrow1⟩, hb2⟩
      case round =>
        obtain ⟨k, hk, rfl, ⟨vs, hrow⟩, hb⟩ := hrel
        clear hrow1 hb2
        by_cases hlt : k < s.size
        · obtain ⟨hbyte, hc4⟩ := HCD.out k hlt
          have hsz := hb.size
          have hcell := (TRow.form hrow rfl (by rw [tbS_len]; omega))
          have hr := hrow.row (cd s k) (by rw [tbS_len]; exact hc4)
          have hll := tbRow_len s (cd s k) k
          have hle := vc_le s (cd s k) k
          rw [tbS_get s k _ hc4] at hr
          have HSET := Lib.hid (tbS_set s k hc4)
          have hcl : wr.cell? ⟨g, cd s k, none⟩ = some (vs.getD (cd s k) NilS) := by
            have ho := hrow.out
            exact ho.cell (by rw [hrow.len, tbS_len]; exact hc4)
          have HROW := Lib.hid hrow
          have HR := Lib.hid hr
          obtain ⟨A, c0, hsh⟩ := hr.shape
          have HU := Lib.hid hsh
          rw [hsh] at hcl
          clear hrow hr HCD hcell hsh
          have HLL : Hid ((tbRow s (cd s k) k).length ≤ 16) := Lib.hid (by omega)
          clear hll hle
          have i9 : IntKind.u8.wrap (97 + ((cd s k : Nat) : Int) - 97) = ((cd s k : Nat) : Int) := by rw [show 97 + ((cd s k : Nat) : Int) - 97 = ((cd s k : Nat) : Int) by omega]; exact IntWalk.u8_in _ (by omega)
          go_wp2_with (at_builtin; refine wpList_push (.tmp 31) (.tmp 34) rfl rfl w.heap.size _ (tbRow s (cd s k) k) rfl (by rw [← HU.out]; exact HR.out) rfl (by have := HLL.out; omega) hsz ?_; intro v' w' hrow' hg' hat'; obtain ⟨A2, c2, hv9⟩ := hrow'.shape; rw [show (tbRow s (cd s k) k ++ [(k : Int) + 1]).length = (tbRow s (cd s k) k).length + 1 by simp] at hv9; subst hv9; have hg2 : wr.grownBy w' (vs.getD (cd s k) NilS).ownBlock := by { rw [HU.out]; exact hg' }; have hp2 := HROW.out.put (by rw [tbS_len]; exact hc4) hg2 hrow' (by rw [HU.out]; exact hat'); have HB2 := Lib.hid (HROW.out.grownBelow (by rw [tbS_len]; exact hc4) hb hg2 (.slice A2 ((tbRow s (cd s k) k).length + 1) c2)); obtain ⟨hcl2, hfr2⟩ := HROW.out.after (by rw [tbS_len]; exact hc4) hg2; rw [HU.out] at hcl2; rw [HSET.out] at hp2; have HP2 := Lib.hid hp2; clear hp2 hcl)
          refine ⟨⟨k + 1, by omega, by go_num, ⟨_, HP2.out⟩, HB2.out⟩, ?_⟩
          first | (simp [intOf]; done) | (simp [intOf]; omega)
        · obtain rfl : k = s.size := by omega
          have HR := Lib.hid hrow
          clear hrow
          go_wp2
          go_ret2
          exact ⟨_, _, rfl, HR.out, hb⟩
    · have HO : oB s = false := by unfold oB; rw [decide_eq_false h0, Bool.and_false]
      have e : 0 ≤ foI s := by unfold foI; rw [if_neg h0]; omega
      generalize foI s = F at *
      rw [HO]
      clear hv h0 HO
      go_enter Tryd.func34, Tryd.ntmps34
      go_wp2_with (first | (go_at_call 47; refine (HG.out _).mono ?_; rintro e w' ⟨rfl, rfl⟩) | (go_at_call 54; refine (HF.out _).mono ?_; rintro e w1 ⟨rfl, hb1⟩))
      go_ret2
      exact ⟨_, _, rfl, TRow.nil (Nat.le_refl _), hb1⟩
  · have HG : Hid (∀ w, Calls Tryd.prog 47 #[.string s] w fun e w' => e = .returned (.bool false) ∧ w = w') := Lib.hid fun w => by have := voGood_any s w hs; rwa [hv] at this
    have HO : oB s = false := by unfold oB; rw [hv]; rfl
    rw [HO]
    clear hv HO
    go_enter Tryd.func34, Tryd.ntmps34
    go_wp2_with (go_at_call 47; refine (HG.out _).mono ?_; rintro e w' ⟨rfl, rfl⟩)
    go_ret2
    exact ⟨_, _, rfl, TRow.nil (Nat.le_refl _), Below.refl _ _⟩
end Go.Proofs.YtnlcainfkchieaaDoor
