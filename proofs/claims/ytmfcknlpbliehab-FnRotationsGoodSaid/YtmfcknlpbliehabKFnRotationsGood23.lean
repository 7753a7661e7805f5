/- Pack 23 of what FnRotationsGood needs: GoodRotI, Leads. -/
import Derived.Test.YtmfcknlpbliehabKFnRotationsGood22
/- The program's GoodRotations. -/
namespace Go.Proofs.Ytmfcknlpbliehab
open Go.RowKit
set_option linter.unusedVariables false
set_option maxHeartbeats 1600000 in
theorem goodRotations_ret (v : Value) (xs : List Int) (w : World) (h : RInts w v xs) (hl : xs.length ≤ 1048576) :
    Calls Try.prog 7 #[v] w (IntsRet w (degB xs) (goodV xs)) := by
  obtain ⟨A, c, rfl⟩ := h.shape
  have H := Lib.hid h
  have HG : Hid (Calls Try.prog 12 #[.slice A xs.length c] w fun e w' => e = .returned (.bool (degB xs)) ∧ w = w') := Lib.hid (isDegrees_any _ xs w h hl)
  rcases Bool.eq_false_or_eq_true (degB xs) with hd | hd
  · have hn := (degB_of hd).1
    have e2 : goodV xs = goods xs xs.length := by unfold goodV; rw [hd]; rfl
    have HD := Lib.hid hd
    have HR : Hid (∀ w1 k, Below w.heap.size w w1 → k < xs.length → Calls Try.prog 15 #[.slice A xs.length c, .int .i64 (k : Int)] w1 (IntsRet w1 true (rot xs k))) :=
      Lib.hid fun w1 k hb hk => by
        have r := rotateList_ret _ xs (k : Int) w1 (H.out.below hb) hl
        have e1 : rotOk xs (k : Int) = true := by unfold rotOk; rw [HD.out, inB_yes (by omega)]; rfl
        have e2 : rotV xs (k : Int) = rot xs k := by unfold rotV; rw [e1]; rfl
        rwa [e1, e2] at r
    have HF : Hid (∀ w1 B v1 k, k < xs.length → IRow w1 B v1 (rot xs k) → Calls Try.prog 16 #[v1] w1 fun e w' => e = .returned (.tuple #[.bool (forB (rot xs k)), .bool true]) ∧ w1 = w') :=
      Lib.hid fun w1 B v1 k hk hr => by
        have r := isForest_any v1 (rot xs k) w1 (RInts.of_row hr) (by rw [rot_length xs k (by omega)]; exact hl)
        unfold forV at r
        rwa [degB_rot HD.out (by omega), Bool.true_and] at r
    have HGS : Hid (∀ k, goods xs (k + 1) = if forB (rot xs k) then goods xs k ++ [(k : Int)] else goods xs k) := Lib.hid fun k => rfl
    have HGL : Hid (∀ k, (goods xs k).length ≤ k) := Lib.hid (goods_length xs)
    rw [hd, e2]
    rw [hd] at HG
    clear h e2 hd
    go_enter Try.func7, Try.ntmps7
    go_wp2_with (go_at_call 12; refine HG.out.mono ?_; rintro e w' ⟨rfl, rfl⟩)
    go_loopw [4, 5, 6, 7, 8, 9, 15] (fun v q1 q2 q3 q4 q5 i wr => ∃ k : Nat, k ≤ xs.length ∧ i = .int .i64 (k : Int) ∧ IRow wr w.heap.size v (goods xs k) ∧ Below w.heap.size w wr) (fun _ _ _ _ _ _ i _ => xs.length - (intOf i).toNat)
    case atStart => exact ⟨0, by omega, rfl, IRow.nil _ _, Below.refl _ _⟩
    case round =>
      obtain ⟨k, hk, rfl, hrow, hb⟩ := hrel
      have hgl := HGL.out k
      have hsz := hb.size
      by_cases hlt : k < xs.length
      · have HR1 := Lib.hid (HR.out wr k hb hlt)
        have HF1 := Lib.hid (HF.out · · · k hlt)
        have HG1 := Lib.hid (HGS.out k)
        clear HR HF HGS HGL
        generalize goods xs k = L at *
        by_cases hf : forB (rot xs k) = true
        · rw [hf] at HF1
          rw [if_pos hf] at HG1
          clear hf
          go_wp2_with (first
            | (go_at_call 15; refine HR1.out.mono ?_; rintro e w1 ⟨v1, rfl, hr1, hb1⟩; have hrow1 := hrow.below hb1; have hb01 : Below w.heap.size w w1 := hb.trans (hb1.mono hsz); have hsz1 : w.heap.size ≤ w1.heap.size := hb01.size; obtain ⟨A1, c1, rfl⟩ := hr1.shape)
            | (go_at_call 16; refine (HF1.out _ _ _ hr1).mono ?_; rintro e w' ⟨rfl, rfl⟩)
            | (at_builtin; refine wpList_push (.tmp 30) (.tmp 32) rfl rfl w.heap.size _ L rfl hrow1 rfl (by omega) hsz1 ?_; intro v' w' hrow' hg' hat'))
          go_roundw
          case rel =>
            exact ⟨k + 1, by omega, by go_num, by rw [HG1.out]; exact hrow', hb01.grown hg' hsz1 (fun q hq => (hrow1.blk q hq).1)⟩
          case measure => first | (simp [intOf]; done) | (simp [intOf]; omega)
        · rw [Bool.not_eq_true] at hf
          rw [if_neg (by rw [hf]; simp)] at HG1
          rw [hf] at HF1
          clear hf
          go_wp2_with (first
            | (go_at_call 15; refine HR1.out.mono ?_; rintro e w1 ⟨v1, rfl, hr1, hb1⟩; have hrow1 := hrow.below hb1; have hb01 : Below w.heap.size w w1 := hb.trans (hb1.mono hsz); obtain ⟨A1, c1, rfl⟩ := hr1.shape)
            | (go_at_call 16; refine (HF1.out _ _ _ hr1).mono ?_; rintro e w' ⟨rfl, rfl⟩))
          go_roundw
          case rel =>
            exact ⟨k + 1, by omega, by go_num, by rw [HG1.out]; exact hrow1, hb01⟩
          case measure => first | (simp [intOf]; done) | (simp [intOf]; omega)
      · have hk2 : k = xs.length := by omega
        subst hk2
        go_wp2
        go_ret2
        exact ⟨_, rfl, hrow, hb⟩
  · have e2 : goodV xs = [] := by unfold goodV; rw [hd]; rfl
    rw [hd, e2]
    rw [hd] at HG
    clear h e2 hd
    go_enter Try.func7, Try.ntmps7
    go_wp2_with (go_at_call 12; refine HG.out.mono ?_; rintro e w' ⟨rfl, rfl⟩)
    go_ret2
    exact ⟨_, rfl, IRow.nil _ _, Below.refl _ _⟩
end Go.Proofs.Ytmfcknlpbliehab

/- leadsAlong, baMargin: all margins; firstBelow, baFirst: the first that is too small. -/
namespace Go.Proofs.Ytmfcknlpbliehab
open Go.RowKit
theorem inK_inB (k : Int) : inB k 1 5 = inK k := rfl
theorem balOk_of {s : ByteArray} {k : Int} (h : balOk s k = true) : pathB s = true ∧ 1 ≤ k ∧ k ≤ 5 := by
  unfold balOk at h
  rw [Bool.and_eq_true] at h
  exact ⟨h.1, inK_of h.2⟩
set_option maxRecDepth 100000 in
set_option maxHeartbeats 400000 in
theorem leadsBy_ret (s : ByteArray) (k : Int) (w : World) (h40 : s.size ≤ 40) (hk : 0 ≤ k ∧ k ≤ 40) :
    Calls Try.prog 43 #[.string s, .int .i64 k] w (IntsNew w (mgs s k)) := by
  obtain ⟨hk1, hk2⟩ := hk
  obtain ⟨i0, hi, hz0, hz1, hz2⟩ := info_parts intInfo
  go_enter Try.func43, Try.ntmps43
  go_wp2_with (refine wpList_make_full _ rfl (.tmp 9) (.tmp 9) 24 rfl w.heap.size 3 i0 (.int .i64 0) 1 Try.underlying24 hi hz0 hz1 .i64 .i64 _ _ (s.size + 1) rfl rfl (by omega) (by omega) (by rw [hz2]; omega) (by unfold maxLen; omega) (Nat.le_refl _) ?_; intro w1 hown1 hgrow1)
  have hrow1 : IRow w1 w.heap.size (.slice (some ⟨w.heap.size, 0, none⟩) (s.size + 1) (s.size + 1)) (fil (mg s k) (s.size + 1) 1) :=
    IRow.of_own hown1 (by simp [fil_length]) (by rw [← fil_one _ _ (mg_zero s k), fil_zero, madeOne _ rfl]; simp)
  have hb1 : Below w.heap.size w w1 := (Below.refl _ _).grown hgrow1 (Nat.le_refl _) (by simp)
  clear hown1 hgrow1
  go_loopw [6, 13] (fun q i wr => ∃ j : Nat, j ≤ s.size ∧ i = .int .i64 j ∧ IRow wr w.heap.size (.slice (some ⟨w.heap.size, 0, none⟩) (s.size + 1) (s.size + 1)) (fil (mg s k) (s.size + 1) (j + 1)) ∧ Below w.heap.size w wr) (fun _ i _ => s.size - (intOf i).toNat)
  case atStart => exact ⟨0, Nat.zero_le _, rfl, hrow1, hb1⟩
  case round =>
    obtain ⟨j, hj, rfl, hrow, hb⟩ := hrel
    by_cases hlt : j < s.size
    · have hc : wr.cell? ⟨w.heap.size, j, none⟩ = some (.int .i64 (mg s k j)) := by
        have := hrow.cell (j := j) (by rw [fil_length]; omega)
        rw [fil_get _ _ _ _ (by omega), if_pos (by omega)] at this
        exact this
      have hc' : wr.cell? ⟨w.heap.size, j + 1, none⟩ = some (.int .i64 0) := by
        have := hrow.cell (j := j + 1) (by rw [fil_length]; omega)
        rw [fil_get _ _ _ _ (by omega), if_neg (by omega)] at this
        exact this
      have hf := hrow.free (j + 1)
      have hbd := mg_bd40 s k ⟨hk1, hk2⟩ j hj
      have HS := Lib.hid (mg_succ s k j hlt)
      have HST := Lib.hid (hrow.set (j + 1) (mg s k (j + 1))).1
      rw [fil_set] at HST
      clear hrow hrow1 hb1
      generalize mg s k j = m at *
      have i1 : (j : Int) < (s.size : Int) + 1 := by omega
      have i2 : (j : Int) < (s.size : Int) := by omega
      have i3 : (j : Int) + 1 < (s.size : Int) + 1 := by omega
      have i4 : 0 ≤ (j : Int) + 1 := by omega
      by_cases hc85 : (s[j].toNat : Int) = 85
      · rw [stepK_u hc85] at HS
        have hbb : ((s[j].toNat : Int) == 85) = true := by simpa using hc85
        clear hc85
        go_wp2
        rw [← HS.out]
        go_roundw
        case rel => exact ⟨j + 1, by omega, by go_num, HST.out, hb.setCell (Nat.le_refl _) _⟩
        case measure => first | (simp [intOf]; done) | (simp [intOf]; omega)
      · rw [stepK_d hc85] at HS
        have hbb : ((s[j].toNat : Int) == 85) = false := by simpa using hc85
        clear hc85
        go_wp2
        rw [show m - k = mg s k (j + 1) by rw [HS.out]; omega]
        go_roundw
        case rel => exact ⟨j + 1, by omega, by go_num, HST.out, hb.setCell (Nat.le_refl _) _⟩
        case measure => first | (simp [intOf]; done) | (simp [intOf]; omega)
    · go_wp2
      obtain rfl : j = s.size := by omega
      go_ret
      exact ⟨_, rfl, by unfold mgs; rw [← fil_full]; exact hrow, hb⟩
def mgsV (s : ByteArray) (k : Int) : List Int := if balOk s k then mgs s k else []
set_option maxHeartbeats 400000 in
theorem firstBelow_any (f : Nat → Int) (n : Nat) (least : Int) (v : Value) (B : Nat) (w : World) (h : IRow w B v (fr f n)) (hn : n ≤ 1000000) :
    Calls Try.prog 45 #[v, .int .i64 least] w fun e w' => e = .returned (.tuple #[.int .i64 (fbV f least n), .bool (fbB f least n)]) ∧ w = w' := by
  by_cases h0 : n = 0
  · subst h0
    obtain ⟨A1, c1, rfl⟩ := h.shape
    rw [fr_length] at *
    clear h
    go_enter Try.func45, Try.ntmps45
    go_wp2
    refine wp_loop_rounds 1 ?_; rw [rounds_succ]
    go_wp2
    go_ret2
    exact ⟨rfl, rfl⟩
  · obtain ⟨g1, c1, rfl, _, _⟩ := h.form' (fr_length f n) (by omega)
    have H1 := Lib.hid h
    clear h h0
    go_enter Try.func45, Try.ntmps45
    go_wp2
    go_loop [10] (fun i => ∃ k : Nat, k ≤ n ∧ i = .int .i64 k ∧ Hid (fb f least k = -1)) (fun i => n - (intOf i).toNat)
    case atStart => exact ⟨0, Nat.zero_le _, rfl, Lib.hid rfl⟩
    case round =>
      obtain ⟨k, hk, rfl, HF⟩ := hrel
      by_cases hlt : k < n
      · have e1 := H1.out.cell (j := k) (by rw [fr_length]; omega)
        rw [fr_get f n k hlt] at e1
        by_cases hk0 : 0 < k
        · by_cases hl : f k < least
          · have HE := Lib.hid (fb_end HF.out hk0 hl hlt)
            go_wp2
            go_ret2
            exact ⟨ret_ib (fbV_yes HE.out).symm (fbB_yes HE.out).symm, rfl⟩
          · have HE := Lib.hid (fb_go HF.out (.inr hl))
            go_wp2
            go_round
            case rel => exact ⟨k + 1, by omega, by go_num, HE⟩
            case measure => first | (simp [intOf]; done) | (simp [intOf]; omega)
        · obtain rfl : k = 0 := by omega
          have HE := Lib.hid (fb_go HF.out (.inl rfl))
          go_wp2
          go_round
          case rel => exact ⟨1, by omega, rfl, HE⟩
          case measure => first | (simp [intOf]; done) | (simp [intOf]; omega)
      · have HK : Hid (k = n) := by unfold Hid; omega
        go_wp2
        go_ret2
        have h9 := HF.out
        rw [HK.out] at h9
        exact ⟨ret_ib (fbV_no h9).symm (fbB_no h9).symm, rfl⟩
end Go.Proofs.Ytmfcknlpbliehab
