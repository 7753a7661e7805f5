/- TableOfVotes: the program. -/
import Derived.Test.YtnlcainfkchieaaDoorVoTab
import Derived.Test.YtnlcainfkchieaaDoorVoD4
namespace Go.Proofs.YtnlcainfkchieaaDoor
open Go.RowKit
set_option linter.unusedVariables false
set_option maxRecDepth 100000 in
set_option maxHeartbeats 1600000 in
theorem table_ret (s : ByteArray) (w : World) (hs : s.size ≤ maxLen) : Calls Tryd.prog 35 #[.string s] w (TabsRet w (oB s) (taV s)) := by
  obtain ⟨i0, hi0, hz0, hz1, hz2⟩ := info_parts vecInfo
  have HO : Hid (∀ w, Calls Tryd.prog 55 #[.string s] w (Ret w (.tuple #[stA (ordP s), .bool (oB s)]))) := Lib.hid fun w => ordRes_any s w hs
  unfold taV
  unfold stA at HO
  generalize ordP s = P at *
  rcases Bool.eq_false_or_eq_true (oB s) with ho | ho
  · have hv := (oB_of ho).1
    have h16 := ((votB_iff s).1 hv).1
    have HC : Hid (∀ (k : Nat) (h : k < s.size) (w : World), Calls Tryd.prog 50 #[.int .u8 (s[k].toNat : Int)] w fun e w' => e = .returned (.int .i64 ((cd s k : Nat) : Int)) ∧ w = w') := Lib.hid fun k h w => candOf_any s k w hv h
    have HC4 := Lib.hid (fun k h => votB_lt hv k h)
    rw [ho] at HO
    rw [ho, if_pos rfl]
    clear hv ho
    go_enter Tryd.func35, Tryd.ntmps35
    go_wp2_with (first | (go_at_call 55; refine (HO.out _).mono ?_; rintro e w1 ⟨rfl, hb1⟩; have hsz1 := hb1.size) | (refine wpList_make_full _ rfl (.const (.int .i64 4)) (.const (.int .i64 4)) 39 rfl w.heap.size 23 i0 (.slice none 0 0) 1 Tryd.underlying39 hi0 hz0 hz1 .i64 .i64 _ _ 4 rfl rfl (by omega) (by omega) (by rw [hz2]; omega) (by unfold maxLen; omega) (by simp; omega) ?_; intro w2 hown1 hgrow1))
    rw [show (w1.alloc (.cells #[.int .i64 ((P 0 : Nat) : Int), .int .i64 ((P 1 : Nat) : Int), .int .i64 ((P 2 : Nat) : Int), .int .i64 ((P 3 : Nat) : Int)] 56)).heap.size = w1.heap.size + 1 by simp] at hown1
    have hrow1 := TRow.made (by rw [show (List.replicate 4 (Value.slice none 0 0)) = (madeCells (Value.slice none 0 0).cells (4 * 1)).toList from (madeOne _ rfl 4).symm]; exact hown1)
    have hb2 : Below w.heap.size w w2 := (hb1.alloc hsz1 _).grown hgrow1 (by simp; omega) (by simp)
    clear hown1 hgrow1
    generalize w1.heap.size + 1 = g at *
    rw [← tbS_zero s] at hrow1
    go_loopw [7, 8, 19] (fun q1 q2 i wr => ∃ k : Nat, k ≤ s.size ∧ i = .int .i64 (k : Int) ∧ (∃ vs, TRow wr w.heap.size wr.heap.size (.slice (some ⟨g, 0, none⟩) 4 4) vs (tbS s k)) ∧ Below w.heap.size w wr) (fun _ _ i _ => s.size - (intOf i).toNat)
    case atStart => exact ⟨0, Nat.zero_le _, rfl, ⟨_, hrow1⟩, hb2⟩
    case round =>
      obtain ⟨k, hk, rfl, ⟨vs, hrow⟩, hb⟩ := hrel
      clear hrow1 hb2
      by_cases hlt : k < s.size
      · have hc4 := HC4.out k hlt
        have HCK := Lib.hid (HC.out k hlt)
        have hsz := hb.size
        have hr := hrow.row (cd s k) (by rw [tbS_len]; exact hc4)
        have hll := tbRow_len s (cd s k) k
        have hle := vc_le s (cd s k) k
        rw [tbS_get s k _ hc4] at hr
        have HSET := Lib.hid (tbS_set s k hc4)
        have hcl : wr.cell? ⟨g, cd s k, none⟩ = some (vs.getD (cd s k) NilS) := by
          have ho := hrow.out
          exact ho.cell (by rw [hrow.len, tbS_len]; exact hc4)
        have HROW := Lib.hid hrow
        have HR := Lib.hid hr
        obtain ⟨A, c0, hsh⟩ := hr.shape
        have HU := Lib.hid hsh
        rw [hsh] at hcl
        clear hrow hr HC HC4 hsh
        have HLL : Hid ((tbRow s (cd s k) k).length ≤ 16) := Lib.hid (by omega)
        clear hll hle
        go_wp2_with (first | (go_at_call 50; refine (HCK.out _).mono ?_; rintro e w' ⟨rfl, rfl⟩) | (at_builtin; refine wpList_push (.tmp 31) (.tmp 34) rfl rfl w.heap.size _ (tbRow s (cd s k) k) rfl (by rw [← HU.out]; exact HR.out) rfl (by have := HLL.out; omega) hsz ?_; intro v' w' hrow' hg' hat'; obtain ⟨A2, c2, hv9⟩ := hrow'.shape; rw [show (tbRow s (cd s k) k ++ [(k : Int) + 1]).length = (tbRow s (cd s k) k).length + 1 by simp] at hv9; subst hv9; have hg2 : wr.grownBy w' (vs.getD (cd s k) NilS).ownBlock := by { rw [HU.out]; exact hg' }; have hp2 := HROW.out.put (by rw [tbS_len]; exact hc4) hg2 hrow' (by rw [HU.out]; exact hat'); have HB2 := Lib.hid (HROW.out.grownBelow (by rw [tbS_len]; exact hc4) hb hg2 (.slice A2 ((tbRow s (cd s k) k).length + 1) c2)); obtain ⟨hcl2, hfr2⟩ := HROW.out.after (by rw [tbS_len]; exact hc4) hg2; rw [HU.out] at hcl2; rw [HSET.out] at hp2; have HP2 := Lib.hid hp2; clear hp2 hcl))
        go_roundw
        case rel => exact ⟨k + 1, by omega, by go_num, ⟨_, HP2.out⟩, HB2.out⟩
        case measure => first | (simp [intOf]; done) | (simp [intOf]; omega)
      · obtain rfl : k = s.size := by omega
        have HR := Lib.hid hrow
        clear hrow
        go_wp2
        go_ret2
        exact ⟨_, _, rfl, HR.out, hb⟩
  · rw [ho] at HO
    rw [ho]
    clear ho
    go_enter Tryd.func35, Tryd.ntmps35
    go_wp2_with (go_at_call 55; refine (HO.out _).mono ?_; rintro e w1 ⟨rfl, hb1⟩; have hsz1 := hb1.size)
    go_ret2
    exact ⟨_, _, rfl, TRow.nil (Nat.le_refl _), hb1.alloc hsz1 _⟩
end Go.Proofs.YtnlcainfkchieaaDoor
