/- ColumnVotes: the model. -/
import Derived.Test.YtnlcainfkchieaaDoorVoS3
import Derived.Test.YtnlcainfkchieaaDoorTaMath
import Derived.Test.YtnlcainfkchieaaDoorBytes
import Derived.Test.YtnlcainfkchieaaDoorVoI2
import Derived.RegionTactic
import Derived.Deep.QuietTactic
namespace Go.Proofs.YtnlcainfkchieaaDoor
open Go.RowKit
set_option linter.unusedVariables false
def cvV (s : ByteArray) : ByteArray := if colB s = true then strOf (cvTo s s.size) else ⟨#[]⟩
theorem cv_step (s : ByteArray) (k : Nat) (h : vc s (cd s k) k < 4) : strOf (cvTo s k) ++ (⟨#[97, 98, 99, 100]⟩ : ByteArray).extract (vc s (cd s k) k) (vc s (cd s k) k + 1) = strOf (cvTo s (k + 1)) := by
  rw [abcd_at _ h, cvTo, str_snoc]
set_option maxRecDepth 100000 in
set_option maxHeartbeats 1600000 in
theorem specColumn_ret (s : ByteArray) (w : World) (hs : s.size ≤ maxLen) : Calls Tryd.prog 43 #[.string s] w (Ret w (.tuple #[.string (cvV s), .bool (colB s)])) := by
  obtain ⟨i0, hi0, hz0, hz1, hz2⟩ := info_parts intInfo
  unfold cvV
  rcases Bool.eq_false_or_eq_true (votB s) with hv | hv
  · have HG : Hid (∀ w, Calls Tryd.prog 47 #[.string s] w fun e w' => e = .returned (.bool true) ∧ w = w') := Lib.hid fun w => by have := voGood_any s w hs; rwa [hv] at this
    have HF : Hid (∀ w, Calls Tryd.prog 54 #[.string s] w (Ret w (.int .i64 (foI s)))) := Lib.hid fun w => voFirst_any s w hv
    by_cases h0 : foTo s s.size = 0
    · have HO : oB s = true := by unfold oB; rw [hv, decide_eq_true h0]; rfl
      have e : foI s = -1 := by unfold foI; rw [if_pos h0]
      rw [e] at HF
      have HC : Hid (∀ w, Calls Tryd.prog 49 #[.string s] w fun e w' => ∃ g c, e = .returned (.slice (some ⟨g, 0, none⟩) 4 c) ∧ w'.cell? ⟨g, 0, none⟩ = some (.int .i64 ((vc s 0 s.size : Nat) : Int)) ∧ Below w.heap.size w w') := Lib.hid fun w => (voCounts_any s w hv).mono fun e w' ⟨v, he, hr, hb⟩ => by
        obtain ⟨g, c, rfl, _, _⟩ := hr.form' (vcL_len s s.size) (by omega)
        have := hr.cell (j := 0) (by rw [vcL_len]; omega)
        exact ⟨g, c, he, this, hb⟩
      by_cases h4 : vc s 0 s.size ≤ 4
      · have HB : colB s = true := by unfold colB; rw [HO, decide_eq_true h4]; rfl
        have HLT := Lib.hid (fun k (hk : k < s.size) => col_lt HB hk)
        have HCD := Lib.hid (fun k (hk : k < s.size) => cd_at hv hk)
        have h16 := ((votB_iff s).1 hv).1
        rw [HB, if_pos rfl]
        have H0 : Hid (strOf (cvTo s 0) = ⟨#[]⟩) := Lib.hid rfl
        have HV := Lib.hid hv
        clear hv h0 HO e HB
        have i4 : ¬ (4 : Int) < ((vc s 0 s.size : Nat) : Int) := by omega
        generalize hX : vc s 0 s.size = X at *
        clear hX
        go_enter Tryd.func43, Tryd.ntmps43
        go_wp2_with (first | (go_at_call 47; refine (HG.out _).mono ?_; rintro e w' ⟨rfl, rfl⟩) | (go_at_call 54; refine (HF.out _).mono ?_; rintro e w1 ⟨rfl, hb1⟩) | (go_at_call 49; refine (HC.out _).mono ?_; rintro e w2 ⟨g, c, rfl, hc, hb2⟩; have HB2 := Lib.hid (hb1.trans (hb2.mono hb1.size)); clear hb1 hb2) | (refine wpList_make_full _ rfl (.const (.int .i64 4)) (.const (.int .i64 4)) 23 rfl w2.heap.size 3 i0 (.int .i64 0) 1 Tryd.underlying23 hi0 hz0 hz1 .i64 .i64 _ _ 4 rfl rfl (by omega) (by omega) (by rw [hz2]; omega) (by unfold maxLen; omega) (Nat.le_refl _) ?_; intro w3 hown1 hgrow1))
        clear hc
        have hrow1 : IRow w3 w2.heap.size (.slice (some ⟨w2.heap.size, 0, none⟩) 4 4) (vcL s 0) :=
          IRow.of_own hown1 rfl (by rw [vcL_zero, madeOne _ rfl]; simp)
        have hb3 : Below w2.heap.size w2 w3 := (Below.refl _ _).grown hgrow1 (Nat.le_refl _) (by simp)
        clear hown1 hgrow1
        go_loopw [5, 6, 7] (fun t i q wr => ∃ k : Nat, k ≤ s.size ∧ i = .int .i64 (k : Int) ∧ t = .string (strOf (cvTo s k)) ∧ IRow wr w2.heap.size (.slice (some ⟨w2.heap.size, 0, none⟩) 4 4) (vcL s k) ∧ Below w2.heap.size w2 wr) (fun _ i _ _ => s.size - (intOf i).toNat)
        case atStart => exact ⟨0, Nat.zero_le _, rfl, by rw [H0.out], hrow1, hb3⟩
        case round =>
          obtain ⟨k, hk, rfl, rfl, hrow, hb⟩ := hrel
          clear hrow1 hb3 H0
          by_cases hlt : k < s.size
          · obtain ⟨hbyte, hc4⟩ := HCD.out k hlt
            have hx4 := HLT.out k hlt
            have HST1 := Lib.hid (cv_step s k hx4)
            have HSET := Lib.hid (vcL_set s k hc4)
            have hcell := hrow.cell (j := cd s k) (by rw [vcL_len]; exact hc4)
            rw [vcL_get s k _ hc4] at hcell
            have hfree := hrow.free (cd s k)
            have hst := (hrow.set (cd s k) (((vc s (cd s k) k : Nat) : Int) + 1)).1
            rw [HSET.out] at hst
            have HST := Lib.hid hst
            have HBS := Lib.hid (hb.setCell (p := ⟨w2.heap.size, cd s k, none⟩) (Nat.le_refl _) (.int .i64 (((vc s (cd s k) k : Nat) : Int) + 1)))
            have hlen := cvTo_len s k
            have hsz0 : (strOf (cvTo s k)).size = k := by rw [strOf_size, hlen]
            clear hst hrow hb HSET HCD HLT hlen
            generalize vc s (cd s k) k = x at *
            generalize cd s k = c at *
            generalize strOf (cvTo s k) = T at *
            have i9 : IntKind.u8.wrap (97 + (c : Int) - 97) = c := by rw [show 97 + (c : Int) - 97 = c by omega]; exact IntWalk.u8_in _ (by omega)
            go_wp2
            go_region
            go_wp2
            refine ⟨⟨k + 1, by omega, by go_num, by rw [HST1.out], HST.out.drew, below_drewN HBS.out 1⟩, ?_⟩
            first | (simp [intOf]; done) | (simp [intOf]; omega)
          · obtain rfl : k = s.size := by omega
            go_wp2
            go_ret2
            exact ⟨rfl, HB2.out.trans (hb.mono HB2.out.size)⟩
      · have HB : colB s = false := by unfold colB; rw [HO, decide_eq_false h4]; rfl
        rw [HB]
        have i4 : (4 : Int) < ((vc s 0 s.size : Nat) : Int) := by omega
        generalize vc s 0 s.size = X at *
        clear hv h0 HO e HB
        go_enter Tryd.func43, Tryd.ntmps43
        go_wp2_with (first | (go_at_call 47; refine (HG.out _).mono ?_; rintro e w' ⟨rfl, rfl⟩) | (go_at_call 54; refine (HF.out _).mono ?_; rintro e w1 ⟨rfl, hb1⟩) | (go_at_call 49; refine (HC.out _).mono ?_; rintro e w2 ⟨g, c, rfl, hc, hb2⟩; have HB2 := Lib.hid (hb1.trans (hb2.mono hb1.size)); clear hb1 hb2))
        go_ret2
        exact ⟨rfl, HB2.out⟩
    · have HB : colB s = false := by unfold colB oB; rw [decide_eq_false h0, Bool.and_false]; rfl
      rw [HB]
      have e : 0 ≤ foI s := by unfold foI; rw [if_neg h0]; omega
      generalize foI s = F at *
      clear hv h0 HB
      go_enter Tryd.func43, Tryd.ntmps43
      go_wp2_with (first | (go_at_call 47; refine (HG.out _).mono ?_; rintro e w' ⟨rfl, rfl⟩) | (go_at_call 54; refine (HF.out _).mono ?_; rintro e w1 ⟨rfl, hb1⟩))
      go_ret2
      exact ⟨rfl, hb1⟩
  · have HG : Hid (∀ w, Calls Tryd.prog 47 #[.string s] w fun e w' => e = .returned (.bool false) ∧ w = w') := Lib.hid fun w => by have := voGood_any s w hs; rwa [hv] at this
    have HB : colB s = false := by unfold colB oB; rw [hv]; rfl
    rw [HB]
    clear hv HB
    go_enter Tryd.func43, Tryd.ntmps43
    go_wp2_with (go_at_call 47; refine (HG.out _).mono ?_; rintro e w' ⟨rfl, rfl⟩)
    go_ret2
    exact ⟨rfl, Below.refl _ _⟩
end Go.Proofs.YtnlcainfkchieaaDoor
