/- leadsAlong, baMargin: all margins; firstBelow, baFirst: the first that is too small. -/
import Derived.Test.YtlgiamgjimffnaaPathOk
import Derived.Test.YtlgiamgjimffnaaLists
import Derived.Test.YtlgiamgjimffnaaBalMath
import Derived.Test.YtlgiamgjimffnaaInB
import Derived.Test.YtlgiamgjimffnaaRatMath
namespace Go.Proofs.Ytlgiamgjimffnaa
open Go.RowKit
theorem inK_inB (k : Int) : inB k 1 5 = inK k := rfl
set_option maxHeartbeats 400000 in
theorem isFactor_any (k : Int) (w : World) : Calls Try.prog 119 #[.int .i64 k] w fun e w' => e = .returned (.bool (inK k)) ∧ w = w' := by
  by_cases h1 : 1 ≤ k
  · by_cases h2 : k ≤ 5
    · rw [inK_yes ⟨h1, h2⟩]
      go_enter Try.func119, Try.ntmps119
      go_wp2
      go_ret
      exact ⟨rfl, rfl⟩
    · rw [inK_no (fun h => h2 h.2)]
      go_enter Try.func119, Try.ntmps119
      go_wp2
      go_ret
      exact ⟨rfl, rfl⟩
  · rw [inK_no (fun h => h1 h.1)]
    go_enter Try.func119, Try.ntmps119
    go_wp2
    go_ret
    exact ⟨rfl, rfl⟩
set_option maxHeartbeats 400000 in
theorem asked_any (s : ByteArray) (k : Int) (w : World) (hs : s.size ≤ maxLen) : Calls Try.prog 75 #[.string s, .int .i64 k] w fun e w' => e = .returned (.bool (balOk s k)) ∧ w = w' := by
  unfold balOk
  rcases Bool.eq_false_or_eq_true (pathB s) with hp | hp
  · rw [hp]
    rcases Bool.eq_false_or_eq_true (inK k) with hk | hk
    all_goals
      rw [hk]
      go_enter Try.func75, Try.ntmps75
      go_wp2_with (first | (go_at_call 85; refine (paGood_any s _ hs).mono ?_; rintro e w' ⟨rfl, rfl⟩) | (go_at_call 101; refine (in_any _ _ _ _).mono ?_; rintro e w' ⟨rfl, rfl⟩; rw [inK_inB, hk]))
      go_ret
      exact ⟨rfl, rfl⟩
  · rw [hp]
    go_enter Try.func75, Try.ntmps75
    go_wp2_with (go_at_call 85; refine (paGood_any s _ hs).mono ?_; rintro e w' ⟨rfl, rfl⟩)
    go_ret
    exact ⟨rfl, rfl⟩
set_option maxHeartbeats 400000 in
theorem leads_no (s : ByteArray) (k : Int) (w : World) (hs : s.size ≤ maxLen) (hp : balOk s k = false) :
    Calls Try.prog 77 #[.string s, .int .i64 k] w (IntsNo w) := by
  unfold balOk at hp
  rcases Bool.eq_false_or_eq_true (pathB s) with h1 | h1
  · rw [h1, Bool.true_and] at hp
    go_enter Try.func77, Try.ntmps77
    go_wp2_with (first | (go_at_call 118; refine (isPath_any s _ hs).mono ?_; rintro e w' ⟨rfl, rfl⟩) | (go_at_call 119; refine (isFactor_any k _).mono ?_; rintro e w' ⟨rfl, rfl⟩))
    go_ret2
    exact ⟨rfl, rfl⟩
  · clear hp
    go_enter Try.func77, Try.ntmps77
    go_wp2_with (first | (go_at_call 118; refine (isPath_any s _ hs).mono ?_; rintro e w' ⟨rfl, rfl⟩) | (go_at_call 119; refine (isFactor_any k _).mono ?_; rintro e w' ⟨rfl, rfl⟩))
    go_ret2
    exact ⟨rfl, rfl⟩
theorem balOk_of {s : ByteArray} {k : Int} (h : balOk s k = true) : pathB s = true ∧ 1 ≤ k ∧ k ≤ 5 := by
  unfold balOk at h
  rw [Bool.and_eq_true] at h
  exact ⟨h.1, inK_of h.2⟩
set_option maxRecDepth 100000 in
set_option maxHeartbeats 400000 in
theorem leadsBy_ret (s : ByteArray) (k : Int) (w : World) (h40 : s.size ≤ 40) (hk : 0 ≤ k ∧ k ≤ 40) :
    Calls Try.prog 120 #[.string s, .int .i64 k] w (IntsNew w (mgs s k)) := by
  obtain ⟨hk1, hk2⟩ := hk
  obtain ⟨i0, hi, hz0, hz1, hz2⟩ := info_parts intInfo
  go_enter Try.func120, Try.ntmps120
  go_wp2_with (refine wpList_make_full _ rfl (.tmp 9) (.tmp 9) 27 rfl w.heap.size 3 i0 (.int .i64 0) 1 Try.underlying27 hi hz0 hz1 .i64 .i64 _ _ (s.size + 1) rfl rfl (by omega) (by omega) (by rw [hz2]; omega) (by unfold maxLen; omega) (Nat.le_refl _) ?_; intro w1 hown1 hgrow1)
  have hrow1 : IRow w1 w.heap.size (.slice (some ⟨w.heap.size, 0, none⟩) (s.size + 1) (s.size + 1)) (fil (mg s k) (s.size + 1) 1) :=
    IRow.of_own hown1 (by simp [fil_length]) (by rw [← fil_one _ _ (mg_zero s k), fil_zero, madeOne _ rfl]; simp)
  have hb1 : Below w.heap.size w w1 := (Below.refl _ _).grown hgrow1 (Nat.le_refl _) (by simp)
  clear hown1 hgrow1
  go_loopw [6, 13] (fun q i wr => ∃ j : Nat, j ≤ s.size ∧ i = .int .i64 j ∧ IRow wr w.heap.size (.slice (some ⟨w.heap.size, 0, none⟩) (s.size + 1) (s.size + 1)) (fil (mg s k) (s.size + 1) (j + 1)) ∧ Below w.heap.size w wr) (fun _ i _ => s.size - (intOf i).toNat)
  case atStart => exact ⟨0, Nat.zero_le _, rfl, hrow1, hb1⟩
  case round =>
    obtain ⟨j, hj, rfl, hrow, hb⟩ := hrel
    by_cases hlt : j < s.size
    · have hc : wr.cell? ⟨w.heap.size, j, none⟩ = some (.int .i64 (mg s k j)) := by
        have := hrow.cell (j := j) (by rw [fil_length]; omega)
        rw [fil_get _ _ _ _ (by omega), if_pos (by omega)] at this
        exact this
      have hc' : wr.cell? ⟨w.heap.size, j + 1, none⟩ = some (.int .i64 0) := by
        have := hrow.cell (j := j + 1) (by rw [fil_length]; omega)
        rw [fil_get _ _ _ _ (by omega), if_neg (by omega)] at this
        exact this
      have hf := hrow.free (j + 1)
      have hbd := mg_bd40 s k ⟨hk1, hk2⟩ j hj
      have HS := Lib.hid (mg_succ s k j hlt)
      have HST := Lib.hid (hrow.set (j + 1) (mg s k (j + 1))).1
      rw [fil_set] at HST
      clear hrow hrow1 hb1
      generalize mg s k j = m at *
      have i1 : (j : Int) < (s.size : Int) + 1 := by omega
      have i2 : (j : Int) < (s.size : Int) := by omega
      have i3 : (j : Int) + 1 < (s.size : Int) + 1 := by omega
      have i4 : 0 ≤ (j : Int) + 1 := by omega
      by_cases hc85 : (s[j].toNat : Int) = 85
      · rw [stepK_u hc85] at HS
        have hbb : ((s[j].toNat : Int) == 85) = true := by simpa using hc85
        clear hc85
        go_wp2
        rw [← HS.out]
        go_roundw
        case rel => exact ⟨j + 1, by omega, by go_num, HST.out, hb.setCell (Nat.le_refl _) _⟩
        case measure => first | (simp [intOf]; done) | (simp [intOf]; omega)
      · rw [stepK_d hc85] at HS
        have hbb : ((s[j].toNat : Int) == 85) = false := by simpa using hc85
        clear hc85
        go_wp2
        rw [show m - k = mg s k (j + 1) by rw [HS.out]; omega]
        go_roundw
        case rel => exact ⟨j + 1, by omega, by go_num, HST.out, hb.setCell (Nat.le_refl _) _⟩
        case measure => first | (simp [intOf]; done) | (simp [intOf]; omega)
    · go_wp2
      obtain rfl : j = s.size := by omega
      go_ret
      exact ⟨_, rfl, by unfold mgs; rw [← fil_full]; exact hrow, hb⟩
set_option maxHeartbeats 400000 in
theorem leads_yes (s : ByteArray) (k : Int) (w : World) (hs : s.size ≤ maxLen) (hp : balOk s k = true) :
    Calls Try.prog 77 #[.string s, .int .i64 k] w (IntsOk w (mgs s k)) := by
  obtain ⟨h1, hk1, hk2⟩ := balOk_of hp
  have hik := inK_yes ⟨hk1, hk2⟩
  have h40 := ((pathB_iff s).1 h1).1
  have HL : Hid (∀ w, Calls Try.prog 120 #[.string s, .int .i64 k] w (IntsNew w (mgs s k))) := Lib.hid fun w => leadsBy_ret s k w h40 (by omega)
  clear hp
  go_enter Try.func77, Try.ntmps77
  go_wp2_with (first | (go_at_call 118; refine (isPath_any s _ hs).mono ?_; rintro e w' ⟨rfl, rfl⟩) | (go_at_call 119; refine (isFactor_any k _).mono ?_; rintro e w' ⟨rfl, rfl⟩) | (go_at_call 120; refine (HL.out _).mono ?_; rintro e w1 ⟨v1, rfl, hr1, hb1⟩))
  go_ret2
  exact ⟨_, rfl, hr1, hb1⟩
def mgsV (s : ByteArray) (k : Int) : List Int := if balOk s k then mgs s k else []
theorem leads_ret (s : ByteArray) (k : Int) (w : World) (hs : s.size ≤ maxLen) : Calls Try.prog 77 #[.string s, .int .i64 k] w (IntsRet w (balOk s k) (mgsV s k)) := by
  unfold mgsV
  rcases Bool.eq_false_or_eq_true (balOk s k) with hp | hp
  · rw [hp, if_pos rfl]; exact (leads_yes s k w hs hp).mono fun _ _ h => h.ret
  · rw [hp]; exact (leads_no s k w hs hp).mono fun _ _ h => h.ret
set_option maxHeartbeats 800000 in
theorem baMargin_any (s : ByteArray) (k : Int) (w : World) (hp : pathB s = true) (hk : 1 ≤ k ∧ k ≤ 5) :
    Calls Try.prog 79 #[.string s, .int .i64 k] w (IntsNew w (mgs s k)) := by
  have h40 := ((pathB_iff s).1 hp).1
  clear hp
  have hk1 := hk.1
  have hk2 := hk.2
  have HK := Lib.hid hk
  clear hk
  have hrow0 : IRow (w.alloc (.cells #[.int .i64 0] 3)) w.heap.size (.slice (some ⟨w.heap.size, 0, none⟩) 1 1) (fr (mg s k) 1) :=
    IRow.of_own (World.ownsRow_lit w #[.int .i64 0] 1 (Nat.le_refl _) (by simp [maxLen]) rfl) (by simp [fr]) (by simp [fr, mg_zero])
  go_enter Try.func79, Try.ntmps79
  go_wp2
  go_loopw [5, 6, 7] (fun v m i wr => ∃ j : Nat, j ≤ s.size ∧ i = .int .i64 j ∧ m = .int .i64 (mg s k j) ∧ IRow wr w.heap.size v (fr (mg s k) (j + 1)) ∧ Below w.heap.size w wr) (fun _ _ i _ => s.size - (intOf i).toNat)
  case atStart => exact ⟨0, Nat.zero_le _, rfl, by rw [mg_zero], hrow0, (Below.refl _ _).alloc (Nat.le_refl _) _⟩
  case round =>
    obtain ⟨j, hj, rfl, rfl, hrow, hb⟩ := hrel
    clear hrow0
    by_cases hlt : j < s.size
    · have hbd := mg_bd s k HK.out j hj
      have HS := Lib.hid (mg_succ s k j hlt)
      have HN := Lib.hid (fr_snoc (mg s k) (j + 1))
      have hll := fr_length (mg s k) (j + 1)
      have HR : Hid (fr (mg s k) (j + 1) ++ [mg s k (j + 1)] = fr (mg s k) (j + 1 + 1)) := HN
      generalize fr (mg s k) (j + 1) = row at *
      generalize mg s k j = m at *
      have hsz := hb.size
      by_cases hc85 : (s[j].toNat : Int) = 85
      · rw [stepK_u hc85] at HS
        have hbb : ((s[j].toNat : Int) == 85) = true := by simpa using hc85
        clear hc85
        go_wp2_with (at_builtin; refine wpList_push (.tmp 24) (.tmp 26) rfl rfl w.heap.size _ row rfl hrow rfl (by omega) hsz ?_; intro v' w' hrow' hg' hat')
        go_roundw
        case rel => exact ⟨j + 1, by omega, by go_num, by rw [HS.out], by rw [← HR.out, HS.out]; exact hrow', hb.grown hg' hsz (fun i hi => (hrow.blk i hi).1)⟩
        case measure => first | (simp [intOf]; done) | (simp [intOf]; omega)
      · rw [stepK_d hc85] at HS
        have hbb : ((s[j].toNat : Int) == 85) = false := by simpa using hc85
        clear hc85
        go_wp2_with (at_builtin; refine wpList_push (.tmp 24) (.tmp 26) rfl rfl w.heap.size _ row rfl hrow rfl (by omega) hsz ?_; intro v' w' hrow' hg' hat')
        go_roundw
        case rel => exact ⟨j + 1, by omega, by go_num, by rw [HS.out]; rfl, by rw [← HR.out, HS.out]; exact hrow', hb.grown hg' hsz (fun i hi => (hrow.blk i hi).1)⟩
        case measure => first | (simp [intOf]; done) | (simp [intOf]; omega)
    · go_wp2
      obtain rfl : j = s.size := by omega
      go_ret
      exact ⟨_, rfl, hrow, hb⟩
set_option maxHeartbeats 400000 in
theorem firstBelow_any (f : Nat → Int) (n : Nat) (least : Int) (v : Value) (B : Nat) (w : World) (h : IRow w B v (fr f n)) (hn : n ≤ 1000000) :
    Calls Try.prog 78 #[v, .int .i64 least] w fun e w' => e = .returned (.tuple #[.int .i64 (fbV f least n), .bool (fbB f least n)]) ∧ w = w' := by
  by_cases h0 : n = 0
  · subst h0
    obtain ⟨A1, c1, rfl⟩ := h.shape
    rw [fr_length] at *
    clear h
    go_enter Try.func78, Try.ntmps78
    go_wp2
    refine wp_loop_rounds 1 ?_; rw [rounds_succ]
    go_wp2
    go_ret2
    exact ⟨rfl, rfl⟩
  · obtain ⟨g1, c1, rfl, _, _⟩ := h.form' (fr_length f n) (by omega)
    have H1 := Lib.hid h
    clear h h0
    go_enter Try.func78, Try.ntmps78
    go_wp2
    go_loop [10] (fun i => ∃ k : Nat, k ≤ n ∧ i = .int .i64 k ∧ Hid (fb f least k = -1)) (fun i => n - (intOf i).toNat)
    case atStart => exact ⟨0, Nat.zero_le _, rfl, Lib.hid rfl⟩
    case round =>
      obtain ⟨k, hk, rfl, HF⟩ := hrel
      by_cases hlt : k < n
      · have e1 := H1.out.cell (j := k) (by rw [fr_length]; omega)
        rw [fr_get f n k hlt] at e1
        by_cases hk0 : 0 < k
        · by_cases hl : f k < least
          · have HE := Lib.hid (fb_end HF.out hk0 hl hlt)
            go_wp2
            go_ret2
            exact ⟨ret_ib (fbV_yes HE.out).symm (fbB_yes HE.out).symm, rfl⟩
          · have HE := Lib.hid (fb_go HF.out (.inr hl))
            go_wp2
            go_round
            case rel => exact ⟨k + 1, by omega, by go_num, HE⟩
            case measure => first | (simp [intOf]; done) | (simp [intOf]; omega)
        · obtain rfl : k = 0 := by omega
          have HE := Lib.hid (fb_go HF.out (.inl rfl))
          go_wp2
          go_round
          case rel => exact ⟨1, by omega, rfl, HE⟩
          case measure => first | (simp [intOf]; done) | (simp [intOf]; omega)
      · have HK : Hid (k = n) := by unfold Hid; omega
        go_wp2
        go_ret2
        have h9 := HF.out
        rw [HK.out] at h9
        exact ⟨ret_ib (fbV_no h9).symm (fbB_no h9).symm, rfl⟩
set_option maxHeartbeats 400000 in
theorem baFirst_any (s : ByteArray) (k most : Int) (w : World) (hp : pathB s = true) (hk : 1 ≤ k ∧ k ≤ 5) :
    Calls Try.prog 76 #[.string s, .int .i64 k, .int .i64 most] w (Ret w (.int .i64 (fb (mg s k) (most + 1) (s.size + 1)))) := by
  have h40 := ((pathB_iff s).1 hp).1
  have HP := Lib.hid hp
  have HK := Lib.hid hk
  clear hp hk
  go_enter Try.func76, Try.ntmps76
  go_wp2_with (go_at_call 79; refine (baMargin_any s k _ HP.out HK.out).mono ?_; rintro e w1 ⟨v, rfl, hr, hb⟩; obtain ⟨g, c, rfl, hgB, hgl⟩ := hr.form' (fr_length _ _) (by omega))
  unfold mgs at hr
  have H1 := Lib.hid hr
  clear hr
  generalize mg s k = f at *
  go_loop [13] (fun i => ∃ k : Nat, k ≤ s.size + 1 ∧ i = .int .i64 k ∧ Hid (fb f (most + 1) k = -1)) (fun i => s.size + 1 - (intOf i).toNat)
  case atStart => exact ⟨0, Nat.zero_le _, rfl, Lib.hid rfl⟩
  case round =>
    obtain ⟨k, hk, rfl, HF⟩ := hrel
    by_cases hlt : k < s.size + 1
    · have e1 := H1.out.cell (j := k) (by rw [fr_length]; omega)
      rw [fr_get f (s.size + 1) k hlt] at e1
      by_cases hk0 : 0 < k
      · by_cases hl : f k ≤ most
        · have HE := Lib.hid (fb_end HF.out hk0 (show f k < most + 1 by omega) hlt)
          go_wp2
          go_ret
          exact ⟨ret_int HE.out.symm, hb⟩
        · have HE := Lib.hid (fb_go HF.out (.inr (show ¬ f k < most + 1 by omega)))
          go_wp2
          go_round
          case rel => exact ⟨k + 1, by omega, by go_num, HE⟩
          case measure => first | (simp [intOf]; done) | (simp [intOf]; omega)
      · obtain rfl : k = 0 := by omega
        have HE := Lib.hid (fb_go HF.out (.inl rfl))
        go_wp2
        go_round
        case rel => exact ⟨1, by omega, rfl, HE⟩
        case measure => first | (simp [intOf]; done) | (simp [intOf]; omega)
    · have HKK : Hid (k = s.size + 1) := by unfold Hid; omega
      go_wp2
      go_ret
      have h9 := HF.out
      rw [HKK.out] at h9
      exact ⟨ret_int h9.symm, hb⟩
end Go.Proofs.Ytlgiamgjimffnaa
