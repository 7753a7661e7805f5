/- Pack 24 of what FnPathsReflected needs: HeightsR, IdxI. -/
import Derived.Test.YtachijliaedndaaKFnPathsReflected23
import Derived.Lib.MinMax
/- spec.HeightsOf; both in one form. -/
namespace Go.Proofs.Ytachijliaedndaa
open Go.RowKit
def htsV (s : ByteArray) : List Int := if pathB s then hts s else []
theorem htsV_len (s : ByteArray) (h : ¬ 1048576 < s.size) : (htsV s).length ≤ 1048577 := by
  unfold htsV; split
  · rw [hts_length]; omega
  · simp
theorem heights_ret (s : ByteArray) (w : World) (hs : s.size ≤ maxLen) : Calls Try.prog 19 #[.string s] w (IntsRet w (pathB s) (htsV s)) := by
  unfold htsV
  rcases Bool.eq_false_or_eq_true (pathB s) with hp | hp
  · rw [hp, if_pos rfl]; exact (heights_any s w hs hp).mono fun _ _ h => h.ret
  · rw [hp]; exact (heights_no s w hs hp).mono fun _ _ h => h.ret
end Go.Proofs.Ytachijliaedndaa

/- slices.Index over numbers; the program's FirstAt. -/
namespace Go.Proofs.Ytachijliaedndaa
open Go.RowKit
set_option linter.unusedVariables false
def ixGo (xs : List Int) (h : Int) : Nat → Nat → Int
  | 0, _ => -1
  | n + 1, k => if xs.getD k 0 = h then k else ixGo xs h n (k + 1)
def ixZ (xs : List Int) (h : Int) : Int := ixGo xs h xs.length 0
theorem ixGo_fa (s : ByteArray) (h : Int) : ∀ n k, k + n ≤ s.size + 1 → ixGo (hts s) h n k = faGo s h n k
  | 0, _, _ => rfl
  | n + 1, k, hk => by
    have e : (hts s).getD k 0 = hAt s k := by rw [List.getD_eq_getElem?_getD, hts_get s k (by omega)]; rfl
    rw [ixGo, faGo, e, ixGo_fa s h n (k + 1) (by omega)]
theorem ixZ_hts (s : ByteArray) (h : Int) : ixZ (hts s) h = faZ s h := by
  unfold ixZ faZ
  rw [hts_length]
  exact ixGo_fa s h _ _ (by omega)
theorem faGo_hit (s : ByteArray) (h : Int) : ∀ n k, 0 ≤ faGo s h n k → ∃ j, j < k + n ∧ hAt s j = h
  | 0, _, h0 => by rw [faGo] at h0; omega
  | n + 1, k, h0 => by
    rw [faGo] at h0
    split at h0
    · exact ⟨k, by omega, by assumption⟩
    · obtain ⟨j, h1, h2⟩ := faGo_hit s h n (k + 1) h0
      exact ⟨j, by omega, h2⟩
theorem faZ_in {s : ByteArray} {h : Int} (hp : pathB s = true) (h0 : 0 ≤ faZ s h) : inB h (-40) 40 = true := by
  obtain ⟨j, h1, h2⟩ := faGo_hit s h _ _ h0
  have h40 := ((pathB_iff s).1 hp).1
  have := hAt_bd s j (by omega)
  unfold inB
  simp
  omega
set_option maxHeartbeats 800000 in
theorem index_any (v : Value) (xs : List Int) (h : Int) (w : World) (hr : RInts w v xs) (hl : xs.length ≤ 1048576) :
    Calls Try.prog 148 #[v, .int .i64 h] w fun e w' => e = .returned (.int .i64 (ixZ xs h)) ∧ w = w' := by
  obtain ⟨A0, cap, rfl⟩ := hr.shape
  have H := Lib.hid hr
  clear hr
  go_enter Try.func148, Try.ntmps148
  go_wp2
  go_loop [8] (fun i => ∃ k : Nat, k ≤ xs.length ∧ i = .int .i64 (k : Int) ∧ Hid (ixGo xs h (xs.length - k) k = ixZ xs h)) (fun i => xs.length - (intOf i).toNat)
  case atStart => exact ⟨0, Nat.zero_le _, rfl, Lib.hid rfl⟩
  case round =>
    obtain ⟨k, hk, rfl, HF⟩ := hrel
    by_cases hlt : k < xs.length
    · obtain ⟨g, o, cc, hv, hg, hcells⟩ := H.out.cells (by omega)
      have hA : A0 = some ⟨g, o, none⟩ := by injection hv
      subst hA
      have hc := hcells k hlt
      have HF1 := HF.out
      rw [show xs.length - k = (xs.length - (k + 1)) + 1 by omega, ixGo] at HF1
      clear hv hcells
      by_cases hq : xs.getD k 0 = h
      · have q : (h == xs.getD k 0) = true := by rw [hq]; simp
        rw [if_pos hq] at HF1
        have HF2 := Lib.hid HF1
        clear HF1 hq
        generalize xs.getD k 0 = x at *
        go_wp2
        go_ret
        exact ⟨by rw [← HF2.out]; rfl, rfl⟩
      · have q : (h == xs.getD k 0) = false := beq_eq_false_iff_ne.2 (fun e => hq e.symm)
        rw [if_neg hq] at HF1
        have HF2 := Lib.hid HF1
        clear HF1 hq
        generalize xs.getD k 0 = x at *
        go_wp2
        go_round
        case rel => exact ⟨k + 1, by omega, by go_num, HF2⟩
        case measure => simp [intOf]; omega
    · have HF2 : Hid (ixZ xs h = -1) := Lib.hid (by rw [← HF.out, show xs.length - k = 0 by omega]; rfl)
      go_wp2
      go_ret
      exact ⟨by rw [HF2.out]; rfl, rfl⟩
def fstV (s : ByteArray) (h : Int) : Int := if pathB s = true then faZ s h else -1
theorem fst_ok (s : ByteArray) (h : Int) : faOk s h = decide (0 ≤ fstV s h) := by
  unfold faOk fstV
  rcases Bool.eq_false_or_eq_true (pathB s) with hp | hp
  · rw [hp, if_pos rfl]
    by_cases h0 : 0 ≤ faZ s h
    · rw [faZ_in hp h0, decide_eq_true h0]; rfl
    · rw [decide_eq_false h0, Bool.and_false]
  · rw [hp]; simp
theorem fst_v (s : ByteArray) (h : Int) : faV s h = max (fstV s h) 0 := by
  unfold faV
  rw [fst_ok]
  by_cases h0 : 0 ≤ fstV s h
  · rw [decide_eq_true h0, if_pos rfl]
    have : fstV s h = faZ s h := by
      unfold fstV at h0 ⊢
      split
      · rfl
      · rename_i hp; rw [if_neg hp] at h0; omega
    omega
  · rw [decide_eq_false h0, if_neg (by simp)]
    omega
theorem fst_bd (s : ByteArray) (h : Int) : -1 ≤ fstV s h ∧ fstV s h ≤ s.size := by
  have := faZ_bd s h
  unfold fstV
  split <;> omega
set_option maxHeartbeats 400000 in
theorem firstAt_ret (s : ByteArray) (h : Int) (w : World) (hs : s.size ≤ maxLen) : Calls Try.prog 15 #[.string s, .int .i64 h] w (Ret w (.tuple #[.int .i64 (faV s h), .bool (faOk s h)])) := by
  rw [fst_ok, fst_v]
  have hbd := fst_bd s h
  unfold maxLen at hs
  rcases Bool.eq_false_or_eq_true (pathB s) with hp | hp
  · have HP := Lib.hid hp
    have h40 := ((pathB_iff s).1 hp).1
    have e : fstV s h = faZ s h := by unfold fstV; rw [if_pos hp]
    have HX : Hid (∀ (v : Value) (w : World), RInts w v (hts s) → Calls Try.prog 148 #[v, .int .i64 h] w fun e w' => e = .returned (.int .i64 (fstV s h)) ∧ w = w') := Lib.hid fun v w hr => by
      rw [e, ← ixZ_hts]
      exact index_any v _ h w hr (by rw [hts_length]; omega)
    have HS : Hid (s.size ≤ maxLen) := Lib.hid (by unfold maxLen; omega)
    clear e hp
    generalize fstV s h = z at *
    go_enter Try.func15, Try.ntmps15
    go_wp2_with (first | (go_at_call 19; refine (heights_any s _ HS.out HP.out).mono ?_; rintro e w1 ⟨v, rfl, hr, hb⟩; obtain ⟨g, c, rfl, hgB, hgl⟩ := hr.form' (hts_length s) (by omega)) | (go_at_call 148; refine (HX.out _ _ (RInts.of_row hr)).mono ?_; rintro e w2 ⟨rfl, rfl⟩))
    go_ret2
    exact ⟨by congr 3, hb⟩
  · have e : fstV s h = -1 := by unfold fstV; rw [hp]; rfl
    rw [e]
    have HX : Hid (∀ (w : World), Calls Try.prog 148 #[.slice none 0 0, .int .i64 h] w fun e w' => e = .returned (.int .i64 (-1)) ∧ w = w') := Lib.hid fun w => index_any _ [] h w ⟨⟨_, _, rfl⟩, fun A n c e => by injection e with e1 e2 e3; subst e2 e3; exact ⟨Nat.le_refl _, by simp [maxLen]⟩, fun h0 => absurd h0 (by simp)⟩ (by simp)
    have HS : Hid (s.size ≤ maxLen) := Lib.hid (by unfold maxLen; omega)
    clear e hbd
    go_enter Try.func15, Try.ntmps15
    go_wp2_with (first | (go_at_call 19; refine (heights_no s _ HS.out hp).mono ?_; rintro e w' ⟨rfl, rfl⟩) | (go_at_call 148; refine (HX.out _).mono ?_; rintro e w2 ⟨rfl, rfl⟩))
    go_ret2
    exact ⟨rfl, Below.refl _ _⟩
end Go.Proofs.Ytachijliaedndaa
