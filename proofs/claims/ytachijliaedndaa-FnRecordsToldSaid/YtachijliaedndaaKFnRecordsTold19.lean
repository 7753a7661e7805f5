/- Pack 19 of what FnRecordsTold needs: Leads, BalCount. -/
import Derived.Test.YtachijliaedndaaKFnRecordsTold18
/- leadsAlong, baMargin: all margins; firstBelow, baFirst: the first that is too small. -/
namespace Go.Proofs.Ytachijliaedndaa
open Go.RowKit
theorem inK_inB (k : Int) : inB k 1 5 = inK k := rfl
set_option maxHeartbeats 400000 in
theorem isFactor_any (k : Int) (w : World) : Calls Try.prog 253 #[.int .i64 k] w fun e w' => e = .returned (.bool (inK k)) ∧ w = w' := by
  by_cases h1 : 1 ≤ k
  · by_cases h2 : k ≤ 5
    · rw [inK_yes ⟨h1, h2⟩]
      go_enter Try.func253, Try.ntmps253
      go_wp2
      go_ret
      exact ⟨rfl, rfl⟩
    · rw [inK_no (fun h => h2 h.2)]
      go_enter Try.func253, Try.ntmps253
      go_wp2
      go_ret
      exact ⟨rfl, rfl⟩
  · rw [inK_no (fun h => h1 h.1)]
    go_enter Try.func253, Try.ntmps253
    go_wp2
    go_ret
    exact ⟨rfl, rfl⟩
set_option maxHeartbeats 400000 in
theorem asked_any (s : ByteArray) (k : Int) (w : World) (hs : s.size ≤ maxLen) : Calls Try.prog 217 #[.string s, .int .i64 k] w fun e w' => e = .returned (.bool (balOk s k)) ∧ w = w' := by
  unfold balOk
  rcases Bool.eq_false_or_eq_true (pathB s) with hp | hp
  · rw [hp]
    rcases Bool.eq_false_or_eq_true (inK k) with hk | hk
    all_goals
      rw [hk]
      go_enter Try.func217, Try.ntmps217
      go_wp2_with (first | (go_at_call 143; refine (paGood_any s _ hs).mono ?_; rintro e w' ⟨rfl, rfl⟩) | (go_at_call 173; refine (in_any _ _ _ _).mono ?_; rintro e w' ⟨rfl, rfl⟩; rw [inK_inB, hk]))
      go_ret
      exact ⟨rfl, rfl⟩
  · rw [hp]
    go_enter Try.func217, Try.ntmps217
    go_wp2_with (go_at_call 143; refine (paGood_any s _ hs).mono ?_; rintro e w' ⟨rfl, rfl⟩)
    go_ret
    exact ⟨rfl, rfl⟩
set_option maxHeartbeats 400000 in
theorem leads_no (s : ByteArray) (k : Int) (w : World) (hs : s.size ≤ maxLen) (hp : balOk s k = false) :
    Calls Try.prog 215 #[.string s, .int .i64 k] w (IntsNo w) := by
  unfold balOk at hp
  rcases Bool.eq_false_or_eq_true (pathB s) with h1 | h1
  · rw [h1, Bool.true_and] at hp
    go_enter Try.func215, Try.ntmps215
    go_wp2_with (first | (go_at_call 58; refine (isPath_any s _ hs).mono ?_; rintro e w' ⟨rfl, rfl⟩) | (go_at_call 253; refine (isFactor_any k _).mono ?_; rintro e w' ⟨rfl, rfl⟩))
    go_ret2
    exact ⟨rfl, rfl⟩
  · clear hp
    go_enter Try.func215, Try.ntmps215
    go_wp2_with (first | (go_at_call 58; refine (isPath_any s _ hs).mono ?_; rintro e w' ⟨rfl, rfl⟩) | (go_at_call 253; refine (isFactor_any k _).mono ?_; rintro e w' ⟨rfl, rfl⟩))
    go_ret2
    exact ⟨rfl, rfl⟩
theorem balOk_of {s : ByteArray} {k : Int} (h : balOk s k = true) : pathB s = true ∧ 1 ≤ k ∧ k ≤ 5 := by
  unfold balOk at h
  rw [Bool.and_eq_true] at h
  exact ⟨h.1, inK_of h.2⟩
set_option maxRecDepth 100000 in
set_option maxHeartbeats 400000 in
theorem leadsBy_ret (s : ByteArray) (k : Int) (w : World) (h40 : s.size ≤ 40) (hk : 0 ≤ k ∧ k ≤ 40) :
    Calls Try.prog 254 #[.string s, .int .i64 k] w (IntsNew w (mgs s k)) := by
  obtain ⟨hk1, hk2⟩ := hk
  obtain ⟨i0, hi, hz0, hz1, hz2⟩ := info_parts intInfo
  go_enter Try.func254, Try.ntmps254
  go_wp2_with (refine wpList_make_full _ rfl (.tmp 9) (.tmp 9) 30 rfl w.heap.size 3 i0 (.int .i64 0) 1 Try.underlying30 hi hz0 hz1 .i64 .i64 _ _ (s.size + 1) rfl rfl (by omega) (by omega) (by rw [hz2]; omega) (by unfold maxLen; omega) (Nat.le_refl _) ?_; intro w1 hown1 hgrow1)
  have hrow1 : IRow w1 w.heap.size (.slice (some ⟨w.heap.size, 0, none⟩) (s.size + 1) (s.size + 1)) (fil (mg s k) (s.size + 1) 1) :=
    IRow.of_own hown1 (by simp [fil_length]) (by rw [← fil_one _ _ (mg_zero s k), fil_zero, madeOne _ rfl]; simp)
  have hb1 : Below w.heap.size w w1 := (Below.refl _ _).grown hgrow1 (Nat.le_refl _) (by simp)
  clear hown1 hgrow1
  go_loopw [6, 13] (fun q i wr => ∃ j : Nat, j ≤ s.size ∧ i = .int .i64 j ∧ IRow wr w.heap.size (.slice (some ⟨w.heap.size, 0, none⟩) (s.size + 1) (s.size + 1)) (fil (mg s k) (s.size + 1) (j + 1)) ∧ Below w.heap.size w wr) (fun _ i _ => s.size - (intOf i).toNat)
  case atStart => exact ⟨0, Nat.zero_le _, rfl, hrow1, hb1⟩
  case round =>
    obtain ⟨j, hj, rfl, hrow, hb⟩ := hrel
    by_cases hlt : j < s.size
    · have hc : wr.cell? ⟨w.heap.size, j, none⟩ = some (.int .i64 (mg s k j)) := by
        have := hrow.cell (j := j) (by rw [fil_length]; omega)
        rw [fil_get _ _ _ _ (by omega), if_pos (by omega)] at this
        exact this
      have hc' : wr.cell? ⟨w.heap.size, j + 1, none⟩ = some (.int .i64 0) := by
        have := hrow.cell (j := j + 1) (by rw [fil_length]; omega)
        rw [fil_get _ _ _ _ (by omega), if_neg (by omega)] at this
        exact this
      have hf := hrow.free (j + 1)
      have hbd := mg_bd40 s k ⟨hk1, hk2⟩ j hj
      have HS := Lib.hid (mg_succ s k j hlt)
      have HST := Lib.hid (hrow.set (j + 1) (mg s k (j + 1))).1
      rw [fil_set] at HST
      clear hrow hrow1 hb1
      generalize mg s k j = m at *
      have i1 : (j : Int) < (s.size : Int) + 1 := by omega
      have i2 : (j : Int) < (s.size : Int) := by omega
      have i3 : (j : Int) + 1 < (s.size : Int) + 1 := by omega
      have i4 : 0 ≤ (j : Int) + 1 := by omega
      by_cases hc85 : (s[j].toNat : Int) = 85
      · rw [stepK_u hc85] at HS
        have hbb : ((s[j].toNat : Int) == 85) = true := by simpa using hc85
        clear hc85
        go_wp2
        rw [← HS.out]
        go_roundw
        case rel => exact ⟨j + 1, by omega, by go_num, HST.out, hb.setCell (Nat.le_refl _) _⟩
        case measure => first | (simp [intOf]; done) | (simp [intOf]; omega)
      · rw [stepK_d hc85] at HS
        have hbb : ((s[j].toNat : Int) == 85) = false := by simpa using hc85
        clear hc85
        go_wp2
        rw [show m - k = mg s k (j + 1) by rw [HS.out]; omega]
        go_roundw
        case rel => exact ⟨j + 1, by omega, by go_num, HST.out, hb.setCell (Nat.le_refl _) _⟩
        case measure => first | (simp [intOf]; done) | (simp [intOf]; omega)
    · go_wp2
      obtain rfl : j = s.size := by omega
      go_ret
      exact ⟨_, rfl, by unfold mgs; rw [← fil_full]; exact hrow, hb⟩
set_option maxHeartbeats 400000 in
theorem leads_yes (s : ByteArray) (k : Int) (w : World) (hs : s.size ≤ maxLen) (hp : balOk s k = true) :
    Calls Try.prog 215 #[.string s, .int .i64 k] w (IntsOk w (mgs s k)) := by
  obtain ⟨h1, hk1, hk2⟩ := balOk_of hp
  have hik := inK_yes ⟨hk1, hk2⟩
  have h40 := ((pathB_iff s).1 h1).1
  have HL : Hid (∀ w, Calls Try.prog 254 #[.string s, .int .i64 k] w (IntsNew w (mgs s k))) := Lib.hid fun w => leadsBy_ret s k w h40 (by omega)
  clear hp
  go_enter Try.func215, Try.ntmps215
  go_wp2_with (first | (go_at_call 58; refine (isPath_any s _ hs).mono ?_; rintro e w' ⟨rfl, rfl⟩) | (go_at_call 253; refine (isFactor_any k _).mono ?_; rintro e w' ⟨rfl, rfl⟩) | (go_at_call 254; refine (HL.out _).mono ?_; rintro e w1 ⟨v1, rfl, hr1, hb1⟩))
  go_ret2
  exact ⟨_, rfl, hr1, hb1⟩
def mgsV (s : ByteArray) (k : Int) : List Int := if balOk s k then mgs s k else []
theorem leads_ret (s : ByteArray) (k : Int) (w : World) (hs : s.size ≤ maxLen) : Calls Try.prog 215 #[.string s, .int .i64 k] w (IntsRet w (balOk s k) (mgsV s k)) := by
  unfold mgsV
  rcases Bool.eq_false_or_eq_true (balOk s k) with hp | hp
  · rw [hp, if_pos rfl]; exact (leads_yes s k w hs hp).mono fun _ _ h => h.ret
  · rw [hp]; exact (leads_no s k w hs hp).mono fun _ _ h => h.ret
set_option maxHeartbeats 800000 in
theorem baMargin_any (s : ByteArray) (k : Int) (w : World) (hp : pathB s = true) (hk : 1 ≤ k ∧ k ≤ 5) :
    Calls Try.prog 219 #[.string s, .int .i64 k] w (IntsNew w (mgs s k)) := by
  have h40 := ((pathB_iff s).1 hp).1
  clear hp
  have hk1 := hk.1
  have hk2 := hk.2
  have HK := Lib.hid hk
  clear hk
  have hrow0 : IRow (w.alloc (.cells #[.int .i64 0] 3)) w.heap.size (.slice (some ⟨w.heap.size, 0, none⟩) 1 1) (fr (mg s k) 1) :=
    IRow.of_own (World.ownsRow_lit w #[.int .i64 0] 1 (Nat.le_refl _) (by simp [maxLen]) rfl) (by simp [fr]) (by simp [fr, mg_zero])
  go_enter Try.func219, Try.ntmps219
  go_wp2
  go_loopw [5, 6, 7] (fun v m i wr => ∃ j : Nat, j ≤ s.size ∧ i = .int .i64 j ∧ m = .int .i64 (mg s k j) ∧ IRow wr w.heap.size v (fr (mg s k) (j + 1)) ∧ Below w.heap.size w wr) (fun _ _ i _ => s.size - (intOf i).toNat)
  case atStart => exact ⟨0, Nat.zero_le _, rfl, by rw [mg_zero], hrow0, (Below.refl _ _).alloc (Nat.le_refl _) _⟩
  case round =>
    obtain ⟨j, hj, rfl, rfl, hrow, hb⟩ := hrel
    clear hrow0
    by_cases hlt : j < s.size
    · have hbd := mg_bd s k HK.out j hj
      have HS := Lib.hid (mg_succ s k j hlt)
      have HN := Lib.hid (fr_snoc (mg s k) (j + 1))
      have hll := fr_length (mg s k) (j + 1)
      have HR : Hid (fr (mg s k) (j + 1) ++ [mg s k (j + 1)] = fr (mg s k) (j + 1 + 1)) := HN
      generalize fr (mg s k) (j + 1) = row at *
      generalize mg s k j = m at *
      have hsz := hb.size
      by_cases hc85 : (s[j].toNat : Int) = 85
      · rw [stepK_u hc85] at HS
        have hbb : ((s[j].toNat : Int) == 85) = true := by simpa using hc85
        clear hc85
        go_wp2_with (at_builtin; refine wpList_push (.tmp 24) (.tmp 26) rfl rfl w.heap.size _ row rfl hrow rfl (by omega) hsz ?_; intro v' w' hrow' hg' hat')
        go_roundw
        case rel => exact ⟨j + 1, by omega, by go_num, by rw [HS.out], by rw [← HR.out, HS.out]; exact hrow', hb.grown hg' hsz (fun i hi => (hrow.blk i hi).1)⟩
        case measure => first | (simp [intOf]; done) | (simp [intOf]; omega)
      · rw [stepK_d hc85] at HS
        have hbb : ((s[j].toNat : Int) == 85) = false := by simpa using hc85
        clear hc85
        go_wp2_with (at_builtin; refine wpList_push (.tmp 24) (.tmp 26) rfl rfl w.heap.size _ row rfl hrow rfl (by omega) hsz ?_; intro v' w' hrow' hg' hat')
        go_roundw
        case rel => exact ⟨j + 1, by omega, by go_num, by rw [HS.out]; rfl, by rw [← HR.out, HS.out]; exact hrow', hb.grown hg' hsz (fun i hi => (hrow.blk i hi).1)⟩
        case measure => first | (simp [intOf]; done) | (simp [intOf]; omega)
    · go_wp2
      obtain rfl : j = s.size := by omega
      go_ret
      exact ⟨_, rfl, hrow, hb⟩
set_option maxHeartbeats 400000 in
theorem firstBelow_any (f : Nat → Int) (n : Nat) (least : Int) (v : Value) (B : Nat) (w : World) (h : IRow w B v (fr f n)) (hn : n ≤ 1000000) :
    Calls Try.prog 216 #[v, .int .i64 least] w fun e w' => e = .returned (.tuple #[.int .i64 (fbV f least n), .bool (fbB f least n)]) ∧ w = w' := by
  by_cases h0 : n = 0
  · subst h0
    obtain ⟨A1, c1, rfl⟩ := h.shape
    rw [fr_length] at *
    clear h
    go_enter Try.func216, Try.ntmps216
    go_wp2
    refine wp_loop_rounds 1 ?_; rw [rounds_succ]
    go_wp2
    go_ret2
    exact ⟨rfl, rfl⟩
  · obtain ⟨g1, c1, rfl, _, _⟩ := h.form' (fr_length f n) (by omega)
    have H1 := Lib.hid h
    clear h h0
    go_enter Try.func216, Try.ntmps216
    go_wp2
    go_loop [10] (fun i => ∃ k : Nat, k ≤ n ∧ i = .int .i64 k ∧ Hid (fb f least k = -1)) (fun i => n - (intOf i).toNat)
    case atStart => exact ⟨0, Nat.zero_le _, rfl, Lib.hid rfl⟩
    case round =>
      obtain ⟨k, hk, rfl, HF⟩ := hrel
      by_cases hlt : k < n
      · have e1 := H1.out.cell (j := k) (by rw [fr_length]; omega)
        rw [fr_get f n k hlt] at e1
        by_cases hk0 : 0 < k
        · by_cases hl : f k < least
          · have HE := Lib.hid (fb_end HF.out hk0 hl hlt)
            go_wp2
            go_ret2
            exact ⟨ret_ib (fbV_yes HE.out).symm (fbB_yes HE.out).symm, rfl⟩
          · have HE := Lib.hid (fb_go HF.out (.inr hl))
            go_wp2
            go_round
            case rel => exact ⟨k + 1, by omega, by go_num, HE⟩
            case measure => first | (simp [intOf]; done) | (simp [intOf]; omega)
        · obtain rfl : k = 0 := by omega
          have HE := Lib.hid (fb_go HF.out (.inl rfl))
          go_wp2
          go_round
          case rel => exact ⟨1, by omega, rfl, HE⟩
          case measure => first | (simp [intOf]; done) | (simp [intOf]; omega)
      · have HK : Hid (k = n) := by unfold Hid; omega
        go_wp2
        go_ret2
        have h9 := HF.out
        rw [HK.out] at h9
        exact ⟨ret_ib (fbV_no h9).symm (fbB_no h9).symm, rfl⟩
set_option maxHeartbeats 400000 in
theorem baFirst_any (s : ByteArray) (k most : Int) (w : World) (hp : pathB s = true) (hk : 1 ≤ k ∧ k ≤ 5) :
    Calls Try.prog 218 #[.string s, .int .i64 k, .int .i64 most] w (Ret w (.int .i64 (fb (mg s k) (most + 1) (s.size + 1)))) := by
  have h40 := ((pathB_iff s).1 hp).1
  have HP := Lib.hid hp
  have HK := Lib.hid hk
  clear hp hk
  go_enter Try.func218, Try.ntmps218
  go_wp2_with (go_at_call 219; refine (baMargin_any s k _ HP.out HK.out).mono ?_; rintro e w1 ⟨v, rfl, hr, hb⟩; obtain ⟨g, c, rfl, hgB, hgl⟩ := hr.form' (fr_length _ _) (by omega))
  unfold mgs at hr
  have H1 := Lib.hid hr
  clear hr
  generalize mg s k = f at *
  go_loop [13] (fun i => ∃ k : Nat, k ≤ s.size + 1 ∧ i = .int .i64 k ∧ Hid (fb f (most + 1) k = -1)) (fun i => s.size + 1 - (intOf i).toNat)
  case atStart => exact ⟨0, Nat.zero_le _, rfl, Lib.hid rfl⟩
  case round =>
    obtain ⟨k, hk, rfl, HF⟩ := hrel
    by_cases hlt : k < s.size + 1
    · have e1 := H1.out.cell (j := k) (by rw [fr_length]; omega)
      rw [fr_get f (s.size + 1) k hlt] at e1
      by_cases hk0 : 0 < k
      · by_cases hl : f k ≤ most
        · have HE := Lib.hid (fb_end HF.out hk0 (show f k < most + 1 by omega) hlt)
          go_wp2
          go_ret
          exact ⟨ret_int HE.out.symm, hb⟩
        · have HE := Lib.hid (fb_go HF.out (.inr (show ¬ f k < most + 1 by omega)))
          go_wp2
          go_round
          case rel => exact ⟨k + 1, by omega, by go_num, HE⟩
          case measure => first | (simp [intOf]; done) | (simp [intOf]; omega)
      · obtain rfl : k = 0 := by omega
        have HE := Lib.hid (fb_go HF.out (.inl rfl))
        go_wp2
        go_round
        case rel => exact ⟨1, by omega, rfl, HE⟩
        case measure => first | (simp [intOf]; done) | (simp [intOf]; omega)
    · have HKK : Hid (k = s.size + 1) := by unfold Hid; omega
      go_wp2
      go_ret
      have h9 := HF.out
      rw [HKK.out] at h9
      exact ⟨ret_int h9.symm, hb⟩
end Go.Proofs.Ytachijliaedndaa

/- CountAhead, CountNeverBehind: by the formula. -/
namespace Go.Proofs.Ytachijliaedndaa
open Go.RowKit
def allOk (a b k : Int) : Bool := inK k && cntOk a b
def allV (a b k : Int) : Int := if allOk a b k then cntV a b else 0
def aheadV (a b k : Int) : Int := if allOk a b k then aheadN (cntV a b) a b k else 0
def neverV (a b k : Int) : Int := if allOk a b k then neverN (cntV a b) a b k else 0
/-- numbers that are asked for -/
structure Asked (a b k : Int) : Prop where
  a0 : 0 ≤ a
  b0 : 0 ≤ b
  ab : a + b ≤ 40
  k1 : 1 ≤ k
  k5 : k ≤ 5
theorem allOk_of {a b k : Int} (h : allOk a b k = true) : Asked a b k := by
  unfold allOk at h
  rw [Bool.and_eq_true] at h
  have h1 := inK_of h.1
  have h2 := h.2
  simp [cntOk] at h2
  exact ⟨h2.1.1, h2.1.2, h2.2, h1.1, h1.2⟩
theorem Asked.ok {a b k : Int} (h : Asked a b k) : allOk a b k = true := by
  unfold allOk
  rw [inK_yes ⟨h.k1, h.k5⟩, cntOk_yes ⟨h.a0, h.b0, h.ab⟩]; rfl
theorem Asked.kb {a b k : Int} (h : Asked a b k) : 0 ≤ k * b ∧ k * b ≤ 200 := by
  have h1 := h.a0
  have h2 := h.b0
  have h3 := h.ab
  have h4 := h.k1
  have h5 := h.k5
  refine ⟨Int.mul_nonneg (by omega) h2, ?_⟩
  have := Int.mul_le_mul h5 (show b ≤ 40 by omega) h2 (by omega)
  omega
theorem mul_bd {c x : Int} (hc : 0 ≤ c ∧ c ≤ 1099511627776) (hx : 0 ≤ x ∧ x ≤ 41) : 0 ≤ c * x ∧ c * x ≤ 45079976738816 := by
  refine ⟨Int.mul_nonneg hc.1 hx.1, ?_⟩
  have := Int.mul_le_mul hc.2 hx.2 hx.1 (by omega)
  omega
theorem inB_k (k : Int) : inB k 1 5 = inK k := rfl
set_option maxHeartbeats 400000 in
theorem countAll_ret (a b k : Int) (w : World) : Calls Try.prog 230 #[.int .i64 a, .int .i64 b, .int .i64 k] w fun e w' => e = .returned (.tuple #[.int .i64 (allV a b k), .bool (allOk a b k)]) ∧ w = w' := by
  rcases Bool.eq_false_or_eq_true (inK k) with hk | hk
  · have HV : Hid (allV a b k = cntV a b) := by
      unfold Hid allV allOk
      rw [hk, Bool.true_and]
      split
      · rfl
      · rename_i h; unfold cntV; rw [if_neg h]
    have HO : Hid (allOk a b k = cntOk a b) := by unfold Hid allOk; rw [hk, Bool.true_and]
    rw [HV.out, HO.out]
    generalize hcv : cntV a b = cv at *
    generalize hco : cntOk a b = co at *
    have HC : Hid (∀ w, Calls Try.prog 71 #[.int .i64 a, .int .i64 b] w fun e w' => e = .returned (.tuple #[.int .i64 cv, .bool co]) ∧ w = w') := Lib.hid fun w => by rw [← hcv, ← hco]; exact count_ret a b w
    clear hcv hco
    go_enter Try.func230, Try.ntmps230
    go_wp2_with (first | (go_at_call 253; refine (isFactor_any k _).mono ?_; rintro e w' ⟨rfl, rfl⟩; rw [hk]) | (go_at_call 71; refine (HC.out _).mono ?_; rintro e w' ⟨rfl, rfl⟩))
    go_ret2
    exact ⟨rfl, rfl⟩
  · have HO : Hid (allOk a b k = false) := by unfold Hid allOk; rw [hk]; rfl
    have HV : Hid (allV a b k = 0) := by unfold Hid allV; rw [HO.out]; rfl
    rw [HV.out, HO.out]
    go_enter Try.func230, Try.ntmps230
    go_wp2_with (go_at_call 253; refine (isFactor_any k _).mono ?_; rintro e w' ⟨rfl, rfl⟩; rw [hk])
    go_ret2
    exact ⟨rfl, rfl⟩
theorem allV_yes {a b k : Int} (h : allOk a b k = true) : allV a b k = cntV a b := by unfold allV; rw [if_pos h]
theorem allV_no {a b k : Int} (h : allOk a b k = false) : allV a b k = 0 := by unfold allV; rw [h]; rfl
theorem aheadV_yes {a b k : Int} (h : allOk a b k = true) : aheadV a b k = aheadN (cntV a b) a b k := by unfold aheadV; rw [if_pos h]
theorem aheadV_no {a b k : Int} (h : allOk a b k = false) : aheadV a b k = 0 := by unfold aheadV; rw [h]; rfl
theorem neverV_yes {a b k : Int} (h : allOk a b k = true) : neverV a b k = neverN (cntV a b) a b k := by unfold neverV; rw [if_pos h]
theorem neverV_no {a b k : Int} (h : allOk a b k = false) : neverV a b k = 0 := by unfold neverV; rw [h]; rfl
theorem aheadN_1 {c a b k : Int} (h : a < k * b) : aheadN c a b k = 0 := by unfold aheadN; rw [if_pos h]
theorem aheadN_2 {c a b k : Int} (h : ¬ a < k * b) (h0 : a + b = 0) : aheadN c a b k = 1 := by unfold aheadN; rw [if_neg h, if_pos h0]
theorem aheadN_3 {c a b k : Int} (h : ¬ a < k * b) (h0 : a + b ≠ 0) : aheadN c a b k = c * (a - k * b) / (a + b) := by unfold aheadN; rw [if_neg h, if_neg h0]
theorem neverN_1 {c a b k : Int} (h : a < k * b) : neverN c a b k = 0 := by unfold neverN; rw [if_pos h]
theorem neverN_2 {c a b k : Int} (h : ¬ a < k * b) : neverN c a b k = c * (a + 1 - k * b) / (a + 1) := by unfold neverN; rw [if_neg h]
set_option maxHeartbeats 400000 in
theorem countAhead_any (a b k : Int) (w : World) : Calls Try.prog 232 #[.int .i64 a, .int .i64 b, .int .i64 k] w fun e w' => e = .returned (.tuple #[.int .i64 (aheadV a b k), .bool (allOk a b k)]) ∧ w = w' := by
  have HC : Hid (∀ w, Calls Try.prog 230 #[.int .i64 a, .int .i64 b, .int .i64 k] w fun e w' => e = .returned (.tuple #[.int .i64 (allV a b k), .bool (allOk a b k)]) ∧ w = w') := Lib.hid fun w => countAll_ret a b k w
  rcases Bool.eq_false_or_eq_true (allOk a b k) with hp | hp
  · obtain ⟨h1, h2, h3, h4, h5⟩ := allOk_of hp
    have hkb := (allOk_of hp).kb
    have hcb := cntV_bd a b
    rw [allV_yes hp, hp] at HC
    have HA := Lib.hid (aheadV_yes hp)
    rw [HA.out, hp]
    clear HA
    generalize cntV a b = c at *
    by_cases hlt : a < k * b
    · rw [aheadN_1 hlt]
      go_enter Try.func232, Try.ntmps232
      go_wp2_with (go_at_call 230; refine (HC.out _).mono ?_; rintro e w' ⟨rfl, rfl⟩)
      go_ret2
      exact ⟨rfl, rfl⟩
    · by_cases h0 : a + b = 0
      · rw [aheadN_2 hlt h0]
        have i0 : (a + b == 0) = true := by simpa using h0
        clear h0
        go_enter Try.func232, Try.ntmps232
        go_wp2_with (go_at_call 230; refine (HC.out _).mono ?_; rintro e w' ⟨rfl, rfl⟩)
        go_ret2
        exact ⟨rfl, rfl⟩
      · rw [aheadN_3 hlt h0]
        have i0 : (a + b == 0) = false := by simpa using h0
        have i1 : 1 ≤ a + b := by omega
        clear h0
        have hm := mul_bd hcb (show 0 ≤ a - k * b ∧ a - k * b ≤ 41 by omega)
        go_enter Try.func232, Try.ntmps232
        go_wp2_with (go_at_call 230; refine (HC.out _).mono ?_; rintro e w' ⟨rfl, rfl⟩)
        go_ret2
        exact ⟨rfl, rfl⟩
  · rw [allV_no hp, hp] at HC
    rw [aheadV_no hp, hp]
    go_enter Try.func232, Try.ntmps232
    go_wp2_with (go_at_call 230; refine (HC.out _).mono ?_; rintro e w' ⟨rfl, rfl⟩)
    go_ret2
    exact ⟨rfl, rfl⟩
theorem countAhead_ret (a b k : Int) (w : World) : Calls Try.prog 232 #[.int .i64 a, .int .i64 b, .int .i64 k] w (Ret w (.tuple #[.int .i64 (aheadV a b k), .bool (allOk a b k)])) :=
  (countAhead_any a b k w).mono fun _ _ ⟨h1, h2⟩ => ⟨h1, h2 ▸ Below.refl _ _⟩
/-! ### the model -/
set_option maxHeartbeats 400000 in
theorem numbers_any (a b k : Int) (w : World) : Calls Try.prog 227 #[.int .i64 a, .int .i64 b, .int .i64 k] w fun e w' => e = .returned (.bool (allOk a b k)) ∧ w = w' := by
  have HO : Hid (allOk a b k = (cntOk a b && inK k)) := by unfold Hid allOk; rw [Bool.and_comm]
  rw [HO.out]
  clear HO
  rcases Bool.eq_false_or_eq_true (cntOk a b) with h1 | h1
  · rw [h1]
    rcases Bool.eq_false_or_eq_true (inK k) with h2 | h2
    all_goals
      rw [h2]
      go_enter Try.func227, Try.ntmps227
      go_wp2_with (first | (go_at_call 199; refine (steps_any _ _ _).mono ?_; rintro e w' ⟨rfl, rfl⟩; rw [h1]) | (go_at_call 173; refine (in_any _ _ _ _).mono ?_; rintro e w' ⟨rfl, rfl⟩; rw [inB_k, h2]))
      go_ret
      exact ⟨rfl, rfl⟩
  · rw [h1]
    go_enter Try.func227, Try.ntmps227
    go_wp2_with (go_at_call 199; refine (steps_any _ _ _).mono ?_; rintro e w' ⟨rfl, rfl⟩; rw [h1])
    go_ret
    exact ⟨rfl, rfl⟩
theorem cntV_chZ {a b k : Int} (h : Asked a b k) : cntV a b = chZ (a + b) a := by
  unfold cntV; rw [cntOk_yes ⟨h.a0, h.b0, h.ab⟩]; rfl
set_option maxHeartbeats 400000 in
theorem baNever_ret (a b k : Int) (w : World) (h : Asked a b k) : Calls Try.prog 228 #[.int .i64 a, .int .i64 b, .int .i64 k] w (Ret w (.int .i64 (neverN (cntV a b) a b k))) := by
  have hkb := h.kb
  have hcb := cntV_bd a b
  have HC : Hid (∀ w, Calls Try.prog 195 #[.int .i64 (a + b), .int .i64 a] w (Ret w (.int .i64 (cntV a b)))) := Lib.hid fun w => by rw [cntV_chZ h]; exact choose_ret _ _ w (by have := h.ab; omega)
  obtain ⟨h1, h2, h3, h4, h5⟩ := h
  generalize cntV a b = c at *
  by_cases hlt : a < k * b
  · rw [neverN_1 hlt]
    go_enter Try.func228, Try.ntmps228
    go_wp2
    go_ret
    exact ⟨rfl, Below.refl _ _⟩
  · rw [neverN_2 hlt]
    have hm := mul_bd hcb (show 0 ≤ a + 1 - k * b ∧ a + 1 - k * b ≤ 41 by omega)
    go_enter Try.func228, Try.ntmps228
    go_wp2_with (go_at_call 195; refine (HC.out _).mono ?_; rintro e w1 ⟨rfl, hb⟩)
    go_ret
    exact ⟨rfl, hb⟩
end Go.Proofs.Ytachijliaedndaa
