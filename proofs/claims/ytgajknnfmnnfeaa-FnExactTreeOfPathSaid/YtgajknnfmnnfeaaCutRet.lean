/- impl.CutAtReturns. -/
import Derived.Test.YtgajknnfmnnfeaaCutMath
import Derived.Test.YtgajknnfmnnfeaaClone
import Derived.Test.YtgajknnfmnnfeaaSOwn
import Derived.Deep.QuietTactic
import Derived.BigQuiet
namespace Go.Proofs.Ytgajknnfmnnfeaa
open Go.RowKit
def cutV (s : ByteArray) : List ByteArray := if closedV s then (cutL s).map (ext s) else []
theorem closed_path {s : ByteArray} (h : closedV s = true) : pathB s = true ∧ hAt s s.size = 0 := by
  unfold closedV at h
  simpa using h
set_option maxRecDepth 100000 in
set_option maxHeartbeats 1000000 in
theorem cutRet_yes (s : ByteArray) (w : World) (hs : s.size ≤ maxLen) (hc : closedV s = true) :
    Calls Try.prog 105 #[.string s] w (StrsRet w true ((cutL s).map (ext s))) := by
  have hp := (closed_path hc).1
  have h40 := ((pathB_iff s).1 hp).1
  have HCUT : Hid (∀ w, Calls Try.prog 108 #[.string s, .func (.func 109) #[] #[]] w fun e w' => ∃ v, e = .returned v ∧ PRow w' w.heap.size v (cutL s) ∧ Below w.heap.size w w') :=
    Lib.hid fun w => cutReturns_any s (nr s) w h40 (Lib.hid fun w k hk => nextReturn_any s k w h40 hk) (Lib.hid fun k hk => nr_lt hk) (Lib.hid (nr_end s))
  have hPl : (cutL s).length ≤ 41 := by have := cutL_len s; omega
  have HPM : Hid (∀ p, p ∈ cutL s → p.1 < p.2 ∧ p.2 ≤ s.size) := fun p hpm => cutL_in hpm
  generalize cutL s = P at *
  go_enter Try.func105, Try.ntmps105
  go_wp2_with (go_at_call 82; refine (isClosed_ret s _ hs).mono ?_; rintro e w1 ⟨rfl, hb1⟩; rw [hc, hp])
  refine (HCUT.out _).mono ?_
  rintro e w2 ⟨v2, rfl, hps, hb2⟩
  have hbb2 : Below w.heap.size w w2 := hb1.trans (hb2.mono hb1.size)
  obtain ⟨A2, cc2, rfl⟩ := hps.shape
  have HPS := Lib.hid hps
  clear hps
  go_wp2
  go_loopw [6, 23] (fun v i wr => ∃ k : Nat, k ≤ P.length ∧ i = .int .i64 (k : Int) ∧ SRow wr w2.heap.size v ((P.take k).map (ext s)) ∧ Below w2.heap.size w2 wr) (fun _ i _ => P.length - (intOf i).toNat)
  case atStart => exact ⟨0, by omega, rfl, SRow.nil _ _, Below.refl _ _⟩
  case round =>
    obtain ⟨k, hk, rfl, hrow, hb⟩ := hrel
    have hsz := hb.size
    by_cases hlt : k < P.length
    · have hprow := HPS.out.below hb
      obtain ⟨gp, cp, hv, _, hgl, hcells⟩ := hprow.cells (by omega)
      have hA : A2 = some ⟨gp, 0, none⟩ := by injection hv
      subst hA
      clear hv
      have e1 := (hcells k hlt).1
      have e2 := (hcells k hlt).2
      have HP2 := Lib.hid (HPM.out P[k] (List.getElem_mem hlt))
      have HT : Hid ((P.take k).map (ext s) ++ [s.extract (P[k]).1 (P[k]).2] = (P.take (k + 1)).map (ext s)) := by
        unfold Hid
        rw [List.take_succ_eq_append_getElem hlt, List.map_append]
        rfl
      generalize P[k] = pk at *
      obtain ⟨pa, pb⟩ := pk
      simp only at e1 e2 HP2 HT
      have hp1 := HP2.out.1
      have hp2 := HP2.out.2
      have hlen : ((P.take k).map (ext s)).length ≤ 42 := by simp; omega
      clear hcells hprow
      go_wp2_with (first | (go_at_call 110; refine (clone_any _ _ (by simp; omega)).mono ?_; rintro e w3 ⟨rfl, hb3⟩; have hrow3 := (hrow.alloc _).below hb3; have hb03 := (hb.alloc hsz _).trans (hb3.mono (by simp; omega))) | (at_builtin; refine wpList_pushS (.tmp 27) (.tmp 35) rfl rfl w2.heap.size _ _ rfl hrow3 rfl (by omega) hb03.size ?_; intro v' w' hrow' hg' hat'))
      go_roundw
      case rel => exact ⟨k + 1, by omega, by go_num, by rw [← HT.out]; exact hrow', hb03.grown hg' hb03.size (fun j hj => (hrow3.blk j hj).1)⟩
      case measure => first | (simp [intOf]; done) | (simp [intOf]; omega)
    · have HK : Hid (k = P.length) := by unfold Hid; omega
      go_wp2
      go_ret2
      rw [HK.out, List.take_length] at hrow
      exact ⟨_, rfl, hrow.mono hbb2.size, hbb2.trans (hb.mono hbb2.size)⟩
set_option maxHeartbeats 400000 in
theorem cutRet_ret (s : ByteArray) (w : World) (hs : s.size ≤ maxLen) : Calls Try.prog 105 #[.string s] w (StrsRet w (closedV s) (cutV s)) := by
  unfold cutV
  rcases Bool.eq_false_or_eq_true (closedV s) with hc | hc
  · rw [hc, if_pos rfl]
    exact cutRet_yes s w hs hc
  · rcases Bool.eq_false_or_eq_true (pathB s) with hp | hp
    all_goals
      rw [hc]
      go_enter Try.func105, Try.ntmps105
      go_wp2_with (go_at_call 82; refine (isClosed_ret s _ hs).mono ?_; rintro e w1 ⟨rfl, hb1⟩; rw [hc, hp])
      go_ret2
      exact ⟨_, rfl, SRow.nil _ _, hb1⟩
end Go.Proofs.Ytgajknnfmnnfeaa
