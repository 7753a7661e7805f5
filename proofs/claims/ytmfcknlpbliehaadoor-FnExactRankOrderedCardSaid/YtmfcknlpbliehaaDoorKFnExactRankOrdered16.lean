/- Pack 16 of what FnExactRankOrdered needs: VoS, TrmD. -/
import Derived.Test.YtmfcknlpbliehaaDoorKFnExactRankOrdered15
import Derived.Shelf.Strings.SlTrimAscii
import Derived.Shelf.Strings.Search1
import Derived.Shelf.Slices.Equal
import Derived.Test.YtmfcknlpbliehaaDoorProg
/- The model's functions on votes. -/
namespace Go.Proofs.YtmfcknlpbliehaaDoor
open Go.RowKit
set_option linter.unusedVariables false
def UpV (s : ByteArray) (k : Nat) : Prop := ∀ j (h : j < s.size), j < k → isV s[j] = true
theorem UpV.zero (s : ByteArray) : UpV s 0 := fun _ _ h => absurd h (by omega)
theorem UpV.succ {s : ByteArray} {k : Nat} (h : UpV s k) (hk : k < s.size) (hu : isV s[k] = true) : UpV s (k + 1) := fun j hj hl => by
  by_cases e : j = k
  · subst e; exact hu
  · exact h j hj (by omega)
theorem UpV.full {s : ByteArray} {k : Nat} (h : UpV s k) (hk : k = s.size) (h16 : s.size ≤ 16) : votB s = true :=
  (votB_iff s).2 ⟨h16, fun j hj => h j hj (by omega)⟩
theorem votB_no {s : ByteArray} {k : Nat} (hk : k < s.size) (hu : isV s[k] = false) : votB s = false := by
  rw [Bool.eq_false_iff]
  intro h
  rw [((votB_iff s).1 h).2 k hk] at hu
  exact absurd hu (by simp)
theorem votB_long {s : ByteArray} (h : ¬ s.size ≤ 16) : votB s = false := by unfold votB; rw [decide_eq_false h]; rfl
set_option maxHeartbeats 400000 in
theorem voGood_any (s : ByteArray) (w : World) (hs : s.size ≤ maxLen) : Calls Tryd.prog 12 #[.string s] w fun e w' => e = .returned (.bool (votB s)) ∧ w = w' := by
  unfold maxLen at hs
  by_cases h16 : 16 < s.size
  · rw [votB_long (by omega)]
    go_enter Tryd.func12, Tryd.ntmps12
    go_wp2
    go_ret
    exact ⟨rfl, rfl⟩
  · go_enter Tryd.func12, Tryd.ntmps12
    go_wp2
    go_loop [3] (fun i => ∃ k : Nat, k ≤ s.size ∧ i = .int .i64 k ∧ Hid (UpV s k)) (fun i => s.size - (intOf i).toNat)
    case atStart => exact ⟨0, Nat.zero_le _, rfl, Lib.hid (UpV.zero s)⟩
    case round =>
      obtain ⟨k, hk, rfl, hu⟩ := hrel
      by_cases hlt : k < s.size
      · by_cases c1 : (s[k].toNat : Int) < 97
        · have HN := Lib.hid (votB_no hlt (by unfold isV; rw [decide_eq_false (by omega)]; rfl))
          go_wp2
          go_ret
          exact ⟨ret_bool HN.out.symm, rfl⟩
        · by_cases c2 : 100 < (s[k].toNat : Int)
          · have HN := Lib.hid (votB_no hlt (by unfold isV; rw [decide_eq_false (show ¬ s[k].toNat ≤ 100 by omega), Bool.and_false]))
            go_wp2
            go_ret
            exact ⟨ret_bool HN.out.symm, rfl⟩
          · have HN : Hid (UpV s (k + 1)) := Lib.hid (hu.out.succ hlt ((isV_iff _).2 (by omega)))
            go_wp2
            go_round
            case rel => exact ⟨k + 1, by omega, by go_num, HN⟩
            case measure => simp [intOf]; omega
      · have HF := Lib.hid (hu.out.full (by omega) (by omega))
        go_wp2
        go_ret
        exact ⟨ret_bool HF.out.symm, rfl⟩
/-- a new row with the counts of the first k votes -/
def CntNew (s : ByteArray) (w : World) (e : Ending) (w' : World) : Prop := ∃ v, e = .returned v ∧ IRow w' w.heap.size v (vcL s s.size) ∧ Below w.heap.size w w'
set_option maxRecDepth 100000 in
set_option maxHeartbeats 800000 in
theorem voCounts_any (s : ByteArray) (w : World) (hv : votB s = true) : Calls Tryd.prog 14 #[.string s] w (CntNew s w) := by
  obtain ⟨i0, hi0, hz0, hz1, hz2⟩ := info_parts intInfo
  have h16 := ((votB_iff s).1 hv).1
  have HV := Lib.hid hv
  clear hv
  go_enter Tryd.func14, Tryd.ntmps14
  go_wp2_with (refine wpList_make_full _ rfl (.const (.int .i64 4)) (.const (.int .i64 4)) 33 rfl w.heap.size 3 i0 (.int .i64 0) 1 Tryd.underlying33 hi0 hz0 hz1 .i64 .i64 _ _ 4 rfl rfl (by omega) (by omega) (by rw [hz2]; omega) (by unfold maxLen; omega) (Nat.le_refl _) ?_; intro w2 hown1 hgrow1)
  have hrow1 : IRow w2 w.heap.size (.slice (some ⟨w.heap.size, 0, none⟩) 4 4) (vcL s 0) :=
    IRow.of_own hown1 rfl (by rw [vcL_zero, madeOne _ rfl]; simp)
  have hb2 : Below w.heap.size w w2 := (Below.refl _ _).grown hgrow1 (Nat.le_refl _) (by simp)
  clear hown1 hgrow1
  go_loopw [4] (fun i wr => ∃ k : Nat, k ≤ s.size ∧ i = .int .i64 (k : Int) ∧ IRow wr w.heap.size (.slice (some ⟨w.heap.size, 0, none⟩) 4 4) (vcL s k) ∧ Below w.heap.size w wr) (fun i _ => s.size - (intOf i).toNat)
  case atStart => exact ⟨0, Nat.zero_le _, rfl, hrow1, hb2⟩
  case round =>
    obtain ⟨k, hk, rfl, hrow, hb⟩ := hrel
    clear hrow1 hb2
    by_cases hlt : k < s.size
    · obtain ⟨hbyte, hc4⟩ := cd_at HV.out hlt
      have hle := vc_le s (cd s k) k
      have HSET := Lib.hid (vcL_set s k hc4)
      have hcell := hrow.cell (j := cd s k) (by rw [vcL_len]; exact hc4)
      rw [vcL_get s k _ hc4] at hcell
      have hfree := hrow.free (cd s k)
      have hst := (hrow.set (cd s k) (((vc s (cd s k) k : Nat) : Int) + 1)).1
      rw [HSET.out] at hst
      have HST := Lib.hid hst
      have HBS := Lib.hid (hb.setCell (p := ⟨w.heap.size, cd s k, none⟩) (Nat.le_refl _) (.int .i64 (((vc s (cd s k) k : Nat) : Int) + 1)))
      clear hst hrow hb HSET
      generalize vc s (cd s k) k = x at *
      generalize cd s k = c at *
      have i9 : IntKind.u8.wrap (97 + (c : Int) - 97) = c := by rw [show 97 + (c : Int) - 97 = c by omega]; exact IntWalk.u8_in _ (by omega)
      go_wp2
      go_roundw
      case rel => exact ⟨k + 1, by omega, by go_num, HST.out, HBS.out⟩
      case measure => simp [intOf]; omega
    · obtain rfl : k = s.size := by omega
      have HR := Lib.hid hrow
      clear hrow
      go_wp2
      go_ret
      exact ⟨_, rfl, HR.out, hb⟩
def f4 (x0 x1 x2 x3 : Int) : Bool := decide (x1 ≤ x0) && decide (x2 ≤ x1) && decide (x3 ≤ x2)
set_option maxRecDepth 100000 in
set_option maxHeartbeats 800000 in
theorem voFalls_any (v : Value) (x0 x1 x2 x3 : Int) (w : World) (h : RInts w v [x0, x1, x2, x3]) : Calls Tryd.prog 29 #[v] w fun e w' => e = .returned (.bool (f4 x0 x1 x2 x3)) ∧ Below w.heap.size w w' := by
  obtain ⟨g, o, c, rfl, hg, hcells⟩ := h.cells (by simp)
  have c0 := hcells 0 (by simp)
  have c1 := hcells 1 (by simp)
  have c2 := hcells 2 (by simp)
  have c3 := hcells 3 (by simp)
  simp at c0 c1 c2 c3
  clear hcells h
  have HF : Hid (f4 x0 x1 x2 x3 = (decide (x1 ≤ x0) && decide (x2 ≤ x1) && decide (x3 ≤ x2))) := Lib.hid rfl
  generalize f4 x0 x1 x2 x3 = fb at *
  by_cases h1 : x0 < x1
  · have HB : Hid (fb = false) := Lib.hid (by rw [HF.out, decide_eq_false (by omega)]; rfl)
    clear HF
    go_enter Tryd.func29, Tryd.ntmps29
    go_wp2
    refine wp_loop_rounds 1 ?_
    iterate 1 (rw [rounds_succ]; go_wp2; go_region; go_wp2)
    go_ret
    exact ⟨ret_bool HB.out.symm, below_drewN (Below.refl _ _) 1⟩
  · by_cases h2 : x1 < x2
    · have HB : Hid (fb = false) := Lib.hid (by rw [HF.out, decide_eq_false (show ¬ x2 ≤ x1 by omega), Bool.and_false]; rfl)
      clear HF
      go_enter Tryd.func29, Tryd.ntmps29
      go_wp2
      refine wp_loop_rounds 2 ?_
      iterate 2 (rw [rounds_succ]; go_wp2; go_region; go_wp2)
      go_ret
      exact ⟨ret_bool HB.out.symm, below_drewN (Below.refl _ _) 2⟩
    · by_cases h3 : x2 < x3
      · have HB : Hid (fb = false) := Lib.hid (by rw [HF.out, decide_eq_false (show ¬ x3 ≤ x2 by omega), Bool.and_false])
        clear HF
        go_enter Tryd.func29, Tryd.ntmps29
        go_wp2
        refine wp_loop_rounds 3 ?_
        iterate 3 (rw [rounds_succ]; go_wp2; go_region; go_wp2)
        go_ret
        exact ⟨ret_bool HB.out.symm, below_drewN (Below.refl _ _) 3⟩
      · have HB : Hid (fb = true) := Lib.hid (by rw [HF.out, decide_eq_true (show x1 ≤ x0 by omega), decide_eq_true (show x2 ≤ x1 by omega), decide_eq_true (show x3 ≤ x2 by omega)]; rfl)
        clear HF
        go_enter Tryd.func29, Tryd.ntmps29
        go_wp2
        refine wp_loop_rounds 4 ?_
        iterate 3 (rw [rounds_succ]; go_wp2; go_region; go_wp2)
        rw [rounds_succ]
        go_wp2
        go_ret
        exact ⟨ret_bool HB.out.symm, below_drewN (Below.refl _ _) 3⟩
end Go.Proofs.YtmfcknlpbliehaaDoor

/- strings.Trim, strings.IndexByte (and slices.Equal) of this program (laid off the library's shelf in plain words). The numbers are those of the seat YtmfcknlpbliehaaDoor. -/
namespace Go.Proofs
open Go.Shelf
def Tryd.lays160_ren : Go.Shelf.Ren := ⟨fun | 160 => 38 | 232 => 45 | 231 => 44 | 227 => 46 | 234 => 48 | 233 => 47 | 236 => 50 | 235 => 49 | 228 => 53 | 271 => 56 | 151 => 55 | 197 => 54 | 120 => 60 | 152 => 59 | 260 => 58 | 137 => 41 | 119 => 61 | 224 => 62 | 225 => 63 | 217 => 52 | 266 => 57 | n => n, fun | 9 => 9 | 4 => 4 | 3 => 3 | 5 => 5 | 117 => 70 | 116 => 69 | 0 => 0 | 124 => 73 | 21 => 21 | 105 => 77 | 46 => 82 | 119 => 81 | 139 => 85 | 138 => 84 | n => n, fun | 3 => 1 | 4 => 2 | n => n⟩
theorem Tryd.lays160 : Go.Proofs.Lays.n160 Tryd.prog Tryd.lays160_ren := {
  mixed := by kernel_rfl
  f119 := Tryd.func61.trans (congrArg some (by kernel_rfl))
  f120 := Tryd.func60.trans (congrArg some (by kernel_rfl))
  f137 := Tryd.func41.trans (congrArg some (by kernel_rfl))
  f151 := Tryd.func55.trans (congrArg some (by kernel_rfl))
  f152 := Tryd.func59.trans (congrArg some (by kernel_rfl))
  f160 := Tryd.func38.trans (congrArg some (by kernel_rfl))
  f197 := Tryd.func54.trans (congrArg some (by kernel_rfl))
  f217 := Tryd.func52.trans (congrArg some (by kernel_rfl))
  f224 := Tryd.func62.trans (congrArg some (by kernel_rfl))
  f225 := Tryd.func63.trans (congrArg some (by kernel_rfl))
  f227 := Tryd.func46.trans (congrArg some (by kernel_rfl))
  f228 := Tryd.func53.trans (congrArg some (by kernel_rfl))
  f231 := Tryd.func44.trans (congrArg some (by kernel_rfl))
  f232 := Tryd.func45.trans (congrArg some (by kernel_rfl))
  f233 := Tryd.func47.trans (congrArg some (by kernel_rfl))
  f234 := Tryd.func48.trans (congrArg some (by kernel_rfl))
  f235 := Tryd.func49.trans (congrArg some (by kernel_rfl))
  f236 := Tryd.func50.trans (congrArg some (by kernel_rfl))
  f260 := Tryd.func58.trans (congrArg some (by kernel_rfl))
  f266 := Tryd.func57.trans (congrArg some (by kernel_rfl))
  f271 := Tryd.func56.trans (congrArg some (by kernel_rfl))
  t0 := Tryd.underlying0
  a0 := Tryd.isAgg0
  z0 := Tryd.sizeOf0
  v0 := Tryd.zeroValue0
  t3 := Tryd.underlying3
  a3 := Tryd.isAgg3
  z3 := Tryd.sizeOf3
  v3 := Tryd.zeroValue3
  t4 := Tryd.underlying4
  a4 := Tryd.isAgg4
  z4 := Tryd.sizeOf4
  v4 := Tryd.zeroValue4
  t5 := Tryd.underlying5
  a5 := Tryd.isAgg5
  z5 := Tryd.sizeOf5
  v5 := Tryd.zeroValue5
  t9 := Tryd.underlying9
  a9 := Tryd.isAgg9
  z9 := Tryd.sizeOf9
  v9 := Tryd.zeroValue9
  t21 := Tryd.underlying21
  a21 := Tryd.isAgg21
  z21 := Tryd.sizeOf21
  v21 := Tryd.zeroValue21
  t46 := Tryd.underlying82
  a46 := Tryd.isAgg82
  z46 := Tryd.sizeOf82
  v46 := Tryd.zeroValue82
  t105 := Tryd.underlying77
  a105 := Tryd.isAgg77
  z105 := Tryd.sizeOf77
  v105 := Tryd.zeroValue77
  t116 := Tryd.underlying69
  a116 := Tryd.isAgg69
  z116 := Tryd.sizeOf69
  t117 := Tryd.underlying70
  a117 := Tryd.isAgg70
  z117 := Tryd.sizeOf70
  v117 := Tryd.zeroValue70
  t119 := Tryd.underlying81
  a119 := Tryd.isAgg81
  z119 := Tryd.sizeOf81
  t124 := Tryd.underlying73
  a124 := Tryd.isAgg73
  z124 := Tryd.sizeOf73
  v124 := Tryd.zeroValue73
  t138 := Tryd.underlying84
  a138 := Tryd.isAgg84
  z138 := Tryd.sizeOf84
  v138 := Tryd.zeroValue84
  t139 := Tryd.underlying85
  a139 := Tryd.isAgg85
  z139 := Tryd.sizeOf85
  v139 := Tryd.zeroValue85
  g3 := by kernel_rfl
  g4 := by kernel_rfl }
def Tryd.lays137_ren : Go.Shelf.Ren := ⟨fun | 137 => 41 | 217 => 52 | 266 => 57 | n => n, fun | 9 => 9 | 5 => 5 | 3 => 3 | n => n, fun | n => n⟩
theorem Tryd.lays137 : Go.Proofs.Lays.n137 Tryd.prog Tryd.lays137_ren := {
  mixed := by kernel_rfl
  f137 := Tryd.func41.trans (congrArg some (by kernel_rfl))
  f217 := Tryd.func52.trans (congrArg some (by kernel_rfl))
  f266 := Tryd.func57.trans (congrArg some (by kernel_rfl))
  t3 := Tryd.underlying3
  a3 := Tryd.isAgg3
  z3 := Tryd.sizeOf3
  v3 := Tryd.zeroValue3
  t5 := Tryd.underlying5
  a5 := Tryd.isAgg5
  z5 := Tryd.sizeOf5
  v5 := Tryd.zeroValue5
  t9 := Tryd.underlying9
  a9 := Tryd.isAgg9
  z9 := Tryd.sizeOf9
  v9 := Tryd.zeroValue9 }
def Tryd.lays111_ren : Go.Shelf.Ren := ⟨fun | 111 => 27 | n => n, fun | 28 => 33 | 3 => 3 | 4 => 4 | 0 => 0 | n => n, fun | n => n⟩
theorem Tryd.lays111 : Go.Proofs.Lays.n111 Tryd.prog Tryd.lays111_ren := {
  mixed := by kernel_rfl
  f111 := Tryd.func27.trans (congrArg some (by kernel_rfl))
  t0 := Tryd.underlying0
  a0 := Tryd.isAgg0
  z0 := Tryd.sizeOf0
  v0 := Tryd.zeroValue0
  t3 := Tryd.underlying3
  a3 := Tryd.isAgg3
  z3 := Tryd.sizeOf3
  v3 := Tryd.zeroValue3
  t4 := Tryd.underlying4
  a4 := Tryd.isAgg4
  z4 := Tryd.sizeOf4
  v4 := Tryd.zeroValue4
  t28 := Tryd.underlying33
  a28 := Tryd.isAgg33
  z28 := Tryd.sizeOf33
  v28 := Tryd.zeroValue33 }

end Go.Proofs
