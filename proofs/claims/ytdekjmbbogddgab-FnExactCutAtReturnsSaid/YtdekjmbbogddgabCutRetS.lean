/- spec.CutAtReturns. -/
import Derived.Test.YtdekjmbbogddgabCutRet
namespace Go.Proofs.Ytdekjmbbogddgab
open Go.RowKit
theorem mapI_getD (l : List Nat) (k : Nat) : (l.map fun j : Nat => (j : Int)).getD k 0 = ((l.getD k 0 : Nat) : Int) := by
  rw [List.getD_eq_getElem?_getD, List.getD_eq_getElem?_getD, List.getElem?_map]
  cases l[k]? <;> rfl
set_option maxRecDepth 100000 in
set_option maxHeartbeats 1000000 in
theorem specCutRet_yes (s : ByteArray) (w : World) (hs : s.size ≤ maxLen) (hc : closedV s = true) :
    Calls Try.prog 22 #[.string s] w (StrsRet w true ((cutL s).map (ext s))) := by
  have HC := Lib.hid (closed_path hc)
  have hp := HC.out.1
  have HP := Lib.hid hp
  have h40 := ((pathB_iff s).1 hp).1
  have he : hAt s s.size = 0 := HC.out.2
  have HRET : Hid (∀ w, Calls Try.prog 51 #[.string s] w (IntsNew w ((cutN s).map fun j : Nat => (j : Int)))) :=
    Lib.hid fun w => by rw [← cutN_rets]; exact paReturns_ret s w HP.out
  have hcl := segs_len (cutN s) 0
  rw [← cutL_segs he] at hcl
  have hln := cutL_len s
  go_enter Try.func22, Try.ntmps22
  go_wp2_with (first | (go_at_call 43; refine (paGood_any s _ hs).mono ?_; rintro e w' ⟨rfl, rfl⟩) | (go_at_call 44; refine (paEnd_ret s _ HP.out).mono ?_; rintro e w1 ⟨rfl, hb1⟩; rw [HC.out.2]))
  refine (HRET.out _).mono ?_
  rintro e w2 ⟨v2, rfl, hps, hb2⟩
  have hbb2 : Below w.heap.size w w2 := hb1.trans (hb2.mono hb1.size)
  have hl2 : ((cutN s).map fun j : Nat => (j : Int)).length = (cutN s).length := List.length_map _
  obtain ⟨n, hn⟩ : ∃ n, n = (cutN s).length := ⟨_, rfl⟩
  rw [← hn] at hcl hl2
  have HN := Lib.hid hn
  obtain ⟨A2, cc2, rfl⟩ := hps.shape
  rw [hl2] at hps ⊢
  have HPS := Lib.hid hps
  clear hps hn
  go_wp2
  go_loopw [4, 5, 19] (fun v fr i wr => ∃ k : Nat, k ≤ n ∧ i = .int .i64 (k : Int) ∧ fr = .int .i64 (((0 :: cutN s).getD k 0 : Nat) : Int) ∧ SRow wr w2.heap.size v (((cutL s).take k).map (ext s)) ∧ Below w2.heap.size w2 wr) (fun _ _ i _ => n - (intOf i).toNat)
  case atStart => exact ⟨0, by omega, rfl, rfl, SRow.nil _ _, Below.refl _ _⟩
  case round =>
    obtain ⟨k, hk, rfl, rfl, hrow, hb⟩ := hrel
    have hsz := hb.size
    by_cases hlt : k < n
    · have hprow := HPS.out.below hb
      obtain ⟨gp, cp, hv, _, hgl⟩ := hprow.form' hl2 (by omega)
      have hA : A2 = some ⟨gp, 0, none⟩ := by injection hv
      subst hA
      clear hv
      have e1 := hprow.cell (j := k) (by omega)
      rw [mapI_getD] at e1
      have HST := Lib.hid (cutN_step HC.out.2 (k := k) (by rw [← HN.out]; exact hlt))
      have hpa := HST.out.1
      have hpb := HST.out.2.1
      have HT := Lib.hid HST.out.2.2
      have HNX : Hid ((0 :: cutN s).getD (k + 1) 0 = (cutN s).getD k 0) := by unfold Hid; rw [List.getD_cons_succ]
      clear HST
      have hlen : (((cutL s).take k).map (ext s)).length ≤ 42 := by rw [List.length_map, List.length_take]; omega
      generalize (0 :: cutN s).getD k 0 = pa at *
      generalize (cutN s).getD k 0 = pb at *
      clear hprow
      go_wp2_with (at_builtin; refine wpList_pushS (.tmp 23) (.tmp 28) rfl rfl w2.heap.size _ _ rfl hrow rfl (by omega) hsz ?_; intro v' w' hrow' hg' hat')
      go_roundw
      case rel => exact ⟨k + 1, by omega, by go_num, by rw [HNX.out], by rw [← HT.out]; exact hrow', hb.grown hg' hsz (fun j hj => (hrow.blk j hj).1)⟩
      case measure => first | (simp [intOf]; done) | (simp [intOf]; omega)
    · have HK : Hid (k = (cutL s).length) := by unfold Hid; omega
      go_wp2
      go_ret2
      rw [HK.out, List.take_length] at hrow
      exact ⟨_, rfl, hrow.mono hbb2.size, hbb2.trans (hb.mono hbb2.size)⟩
set_option maxHeartbeats 400000 in
theorem specCutRet_ret (s : ByteArray) (w : World) (hs : s.size ≤ maxLen) : Calls Try.prog 22 #[.string s] w (StrsRet w (closedV s) (cutV s)) := by
  unfold cutV
  rcases Bool.eq_false_or_eq_true (closedV s) with hc | hc
  · rw [hc, if_pos rfl]
    exact specCutRet_yes s w hs hc
  · rw [hc]
    rcases Bool.eq_false_or_eq_true (pathB s) with hp | hp
    · have HP := Lib.hid hp
      have he : (hAt s s.size == 0) = false := by unfold closedV at hc; rw [hp] at hc; simpa using hc
      have hbd := hAt_bd s s.size (Nat.le_refl _)
      have h40 := ((pathB_iff s).1 hp).1
      generalize hz : hAt s s.size = z at *
      have HZ := Lib.hid hz
      clear hz
      go_enter Try.func22, Try.ntmps22
      go_wp2_with (first | (go_at_call 43; refine (paGood_any s _ hs).mono ?_; rintro e w' ⟨rfl, rfl⟩) | (go_at_call 44; refine (paEnd_ret s _ HP.out).mono ?_; rintro e w1 ⟨rfl, hb1⟩; rw [HZ.out]))
      go_ret2
      exact ⟨_, rfl, SRow.nil _ _, hb1⟩
    · go_enter Try.func22, Try.ntmps22
      go_wp2_with (go_at_call 43; refine (paGood_any s _ hs).mono ?_; rintro e w' ⟨rfl, rfl⟩)
      go_ret2
      exact ⟨_, rfl, SRow.nil _ _, Below.refl _ _⟩
theorem cutV_len (s : ByteArray) (h : ¬ 1048576 < s.size) : (cutV s).length ≤ 1048577 := by
  unfold cutV; split
  · rw [List.length_map]; have := cutL_len s; omega
  · simp
end Go.Proofs.Ytdekjmbbogddgab
