/- Pack 24 of what FnRecordsTold needs: CbhS, RrMath. -/
import Derived.Test.YtachijliaedndaaKFnRecordsTold23
/- The model's CountByHighest, CountBothTouched. -/
namespace Go.Proofs.Ytachijliaedndaa
open Go.RowKit
set_option linter.unusedVariables false
def byH (n : Int) (h : Nat) : Int := toZ n h + toZ n ((h : Int) + 1)
def chOk (n : Int) : Bool := inB n 0 40
def chV (n : Int) : List Int := if chOk n = true then fr (byH n) (n + 1).toNat else []
theorem chV_len (n : Int) : (chV n).length ≤ 1048577 := by
  unfold chV
  split
  · rename_i h
    have := inB_of h
    rw [fr_length]
    omega
  · simp
set_option maxHeartbeats 800000 in
theorem specCountByHighest_ret (n : Int) (w : World) : Calls Try.prog 95 #[.int .i64 n] w (IntsRet w (chOk n) (chV n)) := by
  have HI := Lib.hid (in_any n 0 40)
  rcases Bool.eq_false_or_eq_true (inB n 0 40) with hi | hi
  · have e1 : chOk n = true := hi
    have e2 : chV n = fr (byH n) (n + 1).toNat := by rw [chV, if_pos e1]
    obtain ⟨m, rfl⟩ : ∃ m : Nat, n = m := ⟨n.toNat, by have := inB_of hi; omega⟩
    have hm : m ≤ 40 := by have := inB_of hi; omega
    rw [e1, e2, show ((m : Int) + 1).toNat = m + 1 by omega]
    clear e1 e2
    obtain ⟨i0, hi0, hz0, hz1, hz2⟩ := info_parts intInfo
    go_enter Try.func95, Try.ntmps95
    go_wp2_with (first | (go_at_call 173; refine (HI.out _).mono ?_; rintro e w' ⟨rfl, rfl⟩) | (refine wpList_make_full _ rfl (.tmp 10) (.tmp 10) 30 rfl w.heap.size 3 i0 (.int .i64 0) 1 Try.underlying30 hi0 hz0 hz1 .i64 .i64 _ _ (m + 1) rfl rfl (by omega) (by omega) (by rw [hz2]; omega) (by unfold maxLen; omega) (Nat.le_refl _) ?_; intro w1 hown1 hgrow1))
    have hrow1 : IRow w1 w.heap.size (.slice (some ⟨w.heap.size, 0, none⟩) (m + 1) (m + 1)) (fil (byH m) (m + 1) 0) :=
      IRow.of_own hown1 (by simp [fil_length]) (by rw [fil_zero, madeOne _ rfl]; simp)
    have hb1 : Below w.heap.size w w1 := (Below.refl _ _).grown hgrow1 (Nat.le_refl _) (by simp)
    clear hown1 hgrow1
    go_loopw [5, 14] (fun q i wr => ∃ j : Nat, j ≤ m + 1 ∧ i = .int .i64 (j : Int) ∧ IRow wr w.heap.size (.slice (some ⟨w.heap.size, 0, none⟩) (m + 1) (m + 1)) (fil (byH m) (m + 1) j) ∧ Below w.heap.size w wr) (fun _ i _ => m + 1 - (intOf i).toNat)
    case atStart => exact ⟨0, Nat.zero_le _, rfl, hrow1, hb1⟩
    case round =>
      obtain ⟨j, hj, rfl, hrow, hb⟩ := hrel
      by_cases hlt : j < m + 1
      · have hsz := hb.size
        have hgl := (hrow.blk _ rfl).2
        have b1 := toZ_bd m j (by omega)
        have b2 := toZ_bd m ((j : Int) + 1) (by omega)
        have H1 : Hid (∀ w, Calls Try.prog 204 #[.int .i64 (m : Int), .int .i64 (j : Int)] w (Ret w (.int .i64 (toZ m j)))) := Lib.hid fun w => miTo_ret _ _ w (by omega) (by omega)
        have H2 : Hid (∀ w, Calls Try.prog 204 #[.int .i64 (m : Int), .int .i64 ((j : Int) + 1)] w (Ret w (.int .i64 (toZ m ((j : Int) + 1))))) := Lib.hid fun w => miTo_ret _ _ w (by omega) (by omega)
        have HS : Hid (byH m j = toZ m j + toZ m ((j : Int) + 1)) := Lib.hid rfl
        have i1 : (j : Int) < (m : Int) + 1 := by omega
        have tok1 : True := trivial
        have hrr := hrow
        have hacc := hb
        clear hrow hb hrow1 hb1
        generalize toZ m j = z1 at *
        generalize toZ m ((j : Int) + 1) = z2 at *
        go_wp2_with (first
          | (have _t := tok1; go_at_call 204; clear _t tok1; refine (H1.out _).mono ?_; rintro e w2 ⟨rfl, hb2⟩; replace hrr := hrr.below hb2; replace hacc := hacc.trans (hb2.mono hsz))
          | (go_at_call 204; refine (H2.out _).mono ?_; rintro e w3 ⟨rfl, hb3⟩; have hf3 := (hrr.below hb3).free j; have hc3 := (hrr.below hb3).cell (j := j) (by rw [fil_length]; omega)))
        have hs2 := hb2.size
        have hst := ((hrr.below hb3).set j (byH m j)).1
        rw [fil_set, HS.out] at hst
        have HST := Lib.hid hst
        have HACC := Lib.hid ((hacc.trans (hb3.mono hacc.size)).setCell (p := ⟨w.heap.size, j, none⟩) (Nat.le_refl _) (.int .i64 (z1 + z2)))
        clear hst hacc hrr hf3 hc3 hb3 hb2
        go_roundw
        case rel => exact ⟨j + 1, by omega, by go_num, HST.out, HACC.out⟩
        case measure => simp [intOf]; omega
      · obtain rfl : j = m + 1 := by omega
        have hr := hrow
        rw [fil_full] at hr
        have HR := Lib.hid hr
        clear hr hrow
        go_wp2_with fail
        go_ret2
        exact ⟨_, rfl, HR.out, hb⟩
  · have e1 : chOk n = false := hi
    have e2 : chV n = [] := by rw [chV, e1]; rfl
    rw [e1, e2]
    clear e1 e2
    go_enter Try.func95, Try.ntmps95
    go_wp2_with (go_at_call 173; refine (HI.out _).mono ?_; rintro e w' ⟨rfl, rfl⟩)
    go_ret2
    exact ⟨_, rfl, IRow.nil _ _, Below.refl _ _⟩
end Go.Proofs.Ytachijliaedndaa

/- Paths by what is wanting to a record and by records: the next table while it is filled. Plain numbers. -/
namespace Go.Proofs.Ytachijliaedndaa
open Go.RowKit
set_option linter.unusedVariables false
/-- the entry p q is done where the row G stands at R -/
abbrev dn (p q G R : Nat) : Prop := p < G ∨ (p = G ∧ q < R)
theorem dn_if (x : Int) (p q G R : Nat) : (if dn p q G (R + 1) then x else 0) = (if dn p q G R then x else 0) + (if p = G ∧ q = R then x else 0) := by
  unfold dn
  by_cases h : p < G ∨ (p = G ∧ q < R)
  · rw [if_pos h, if_pos (by omega), if_neg (by omega)]; omega
  · rw [if_neg h]
    by_cases h2 : p = G ∧ q = R
    · rw [if_pos h2, if_pos (by omega)]; omega
    · rw [if_neg h2, if_neg (by omega)]; omega
/-- the next table: entry g r, those below G and those of G below R being done -/
def rcT (k G R g r : Nat) : Int := (if dn (g + 1) r G R then rcD k (g + 1 + r) else 0) +
  (if g = 0 then (if r = 0 then 0 else if dn 0 (r - 1) G R then rcD k (r - 1) else 0) else if dn (g - 1) r G R then rcD k (g - 1 + r) else 0)
theorem rcT_zero (k g r : Nat) : rcT k 0 0 g r = 0 := by
  unfold rcT
  rw [if_neg (by unfold dn; omega)]
  by_cases h : g = 0
  · rw [if_pos h]
    by_cases h2 : r = 0
    · rw [if_pos h2]; rfl
    · rw [if_neg h2, if_neg (by unfold dn; omega)]; rfl
  · rw [if_neg h, if_neg (by unfold dn; omega)]; rfl
theorem rcT_step (k G R g r : Nat) : rcT k G (R + 1) g r = rcT k G R g r + ((if g + 1 = G ∧ r = R then rcD k (G + R) else 0) +
    (if g = 0 then (if G = 0 ∧ r = R + 1 then rcD k (G + R) else 0) else if g = G + 1 ∧ r = R then rcD k (G + R) else 0)) := by
  unfold rcT
  rw [dn_if]
  have e1 : (if g + 1 = G ∧ r = R then rcD k (g + 1 + r) else 0) = (if g + 1 = G ∧ r = R then rcD k (G + R) else 0) := by
    by_cases h : g + 1 = G ∧ r = R
    · rw [if_pos h, if_pos h, h.1, h.2]
    · rw [if_neg h, if_neg h]
  rw [e1]
  by_cases h : g = 0
  · rw [if_pos h, if_pos h, if_pos h]
    by_cases h2 : r = 0
    · rw [if_pos h2, if_pos h2, if_neg (show ¬ (G = 0 ∧ r = R + 1) by omega)]
      omega
    · rw [if_neg h2, if_neg h2, dn_if]
      have e2 : (if 0 = G ∧ r - 1 = R then rcD k (r - 1) else 0) = (if G = 0 ∧ r = R + 1 then rcD k (G + R) else 0) := by
        by_cases h3 : G = 0 ∧ r = R + 1
        · rw [if_pos h3, if_pos (by omega), h3.1, h3.2, Nat.zero_add]; rfl
        · rw [if_neg h3, if_neg (by omega)]
      rw [e2]
      omega
  · rw [if_neg h, if_neg h, if_neg h, dn_if]
    have e2 : (if g - 1 = G ∧ r = R then rcD k (g - 1 + r) else 0) = (if g = G + 1 ∧ r = R then rcD k (G + R) else 0) := by
      by_cases h3 : g = G + 1 ∧ r = R
      · rw [if_pos h3, if_pos (by omega), h3.1, h3.2]; rfl
      · rw [if_neg h3, if_neg (by omega)]
    rw [e2]
    omega
theorem rcT_skip {k G R : Nat} (h : rcD k (G + R) = 0) (g r : Nat) : rcT k G R g r = rcT k G (R + 1) g r := by
  rw [rcT_step, h]
  simp
theorem rcT_first (k R g r : Nat) : (if g = 1 ∧ r = R then rcT k 0 R 1 R + rcD k R else if g = 0 ∧ r = R + 1 then rcT k 0 R 0 (R + 1) + rcD k R else rcT k 0 R g r) = rcT k 0 (R + 1) g r := by
  rw [rcT_step, Nat.zero_add, if_neg (show ¬ (g + 1 = 0 ∧ r = R) by omega)]
  by_cases h1 : g = 1 ∧ r = R
  · rw [if_pos h1, if_neg (show ¬ g = 0 by omega), if_pos (show g = 0 + 1 ∧ r = R by omega), h1.1, h1.2]
    omega
  · rw [if_neg h1]
    by_cases h2 : g = 0 ∧ r = R + 1
    · rw [if_pos h2, if_pos h2.1, if_pos ⟨rfl, h2.2⟩, h2.1, h2.2]
      omega
    · rw [if_neg h2]
      by_cases h3 : g = 0
      · rw [if_pos h3, if_neg (by omega)]; omega
      · rw [if_neg h3, if_neg (by omega)]; omega
theorem rcT_more (k G R g r : Nat) : (if g = G + 1 + 1 ∧ r = R then rcT k (G + 1) R (G + 1 + 1) R + rcD k (G + 1 + R) else if g = G ∧ r = R then rcT k (G + 1) R G R + rcD k (G + 1 + R) else rcT k (G + 1) R g r) = rcT k (G + 1) (R + 1) g r := by
  rw [rcT_step]
  by_cases h1 : g = G + 1 + 1 ∧ r = R
  · rw [if_pos h1, if_neg (show ¬ (g + 1 = G + 1 ∧ r = R) by omega), if_neg (show ¬ g = 0 by omega), if_pos h1, h1.1, h1.2]
    omega
  · rw [if_neg h1]
    by_cases h2 : g = G ∧ r = R
    · rw [if_pos h2, if_pos (show g + 1 = G + 1 ∧ r = R by omega)]
      by_cases h3 : g = 0
      · rw [if_pos h3, if_neg (by omega), h2.1, h2.2]; omega
      · rw [if_neg h3, if_neg (by omega), h2.1, h2.2]; omega
    · rw [if_neg h2, if_neg (show ¬ (g + 1 = G + 1 ∧ r = R) by omega)]
      by_cases h3 : g = 0
      · rw [if_pos h3, if_neg (by omega)]; omega
      · rw [if_neg h3, if_neg h1]; omega
theorem rcT_row {k m G g r : Nat} (hr : r < m) : rcT k G m g r = rcT k (G + 1) 0 g r := by
  have e : ∀ (p q : Nat) (x : Int), q < m → (if dn p q G m then x else 0) = (if dn p q (G + 1) 0 then x else 0) := fun p q x hq => by
    unfold dn
    by_cases h : p < G + 1
    · rw [if_pos (by omega), if_pos (by omega)]
    · rw [if_neg (by omega), if_neg (by omega)]
  unfold rcT
  rw [e _ _ _ hr, e _ _ _ hr, e _ _ _ (show r - 1 < m by omega)]
theorem rcT_all {k m g r : Nat} (hk : k < m) (hg : g < m + 1) (hr : r < m + 1) : rcT k (m + 1) 0 g r = rcD (k + 1) (g + r) := by
  unfold rcT
  have e1 : (if dn (g + 1) r (m + 1) 0 then rcD k (g + 1 + r) else 0) = rcD k (g + 1 + r) := by
    by_cases h : g + 1 < m + 1
    · rw [if_pos (.inl h)]
    · rw [if_neg (by unfold dn; omega), rcD_far (by omega)]
  rw [e1]
  by_cases h : g = 0
  · rw [if_pos h]
    by_cases h2 : r = 0
    · rw [if_pos h2, h, h2, rcD_first]
      show rcD k 1 + 0 = rcD k 1
      omega
    · obtain ⟨s, rfl⟩ : ∃ s, r = s + 1 := ⟨r - 1, by omega⟩
      rw [if_neg h2, if_pos (.inl (by omega)), h, show 0 + (s + 1) = s + 1 by omega, rcD_step, show 0 + 1 + (s + 1) = s + 2 by omega]
      rfl
  · obtain ⟨q, rfl⟩ : ∃ q, g = q + 1 := ⟨g - 1, by omega⟩
    rw [if_neg h, if_pos (.inl (by omega)), show q + 1 + r = (q + r) + 1 by omega, rcD_step, show q + 1 + 1 + r = q + r + 2 by omega]
    rfl
theorem rcT_bd {k : Nat} (hk : k ≤ 16) (G R g r : Nat) : -131072 ≤ rcT k G R g r ∧ rcT k G R g r ≤ 131072 := by
  have h1 := rcD_bd hk (g + 1 + r)
  have h2 := rcD_bd hk (r - 1)
  have h3 := rcD_bd hk (g - 1 + r)
  unfold rcT
  repeat' split
  all_goals omega
/-! ### the sums of the columns -/
def rcO (m G R r : Nat) : Int := rcS m r (if r < R then G + 1 else G)
theorem rcO_zero (m n : Nat) : List.replicate n (0 : Int) = fr (rcO m 0 0) n := by
  apply List.ext_getElem
  · simp [fr]
  · intro i h1 h2
    simp only [fr, List.getElem_replicate, List.getElem_map, List.getElem_range, rcO]
    rw [if_neg (by omega)]
    rfl
theorem rcO_set (m G R n : Nat) : (fr (rcO m G R) n).set R (rcO m G R R + rcD m (G + R)) = fr (rcO m G (R + 1)) n := by
  have e : rcO m G R R + rcD m (G + R) = rcO m G (R + 1) R := by
    unfold rcO
    rw [if_neg (by omega), if_pos (by omega), rcS]
  rw [e]
  refine frw_set1 _ _ _ _ fun j _ h1 => ?_
  unfold rcO
  by_cases h : j < R
  · rw [if_pos h, if_pos (by omega)]
  · rw [if_neg h, if_neg (by omega)]
theorem rcO_row (m G n : Nat) : fr (rcO m G n) n = fr (rcO m (G + 1) 0) n := frw_congr fun j hj => by
  unfold rcO
  rw [if_pos hj, if_neg (by omega)]
theorem rcS_bd {m : Nat} (hm : m ≤ 16) (r : Nat) : ∀ g : Nat, -(65536 * (g : Int)) ≤ rcS m r g ∧ rcS m r g ≤ 65536 * (g : Int)
  | 0 => by simp [rcS]
  | g + 1 => by
    have h1 := rcS_bd hm r g
    have h2 := rcD_bd hm (g + r)
    rw [rcS]
    omega
theorem rcO_bd {m : Nat} (hm : m ≤ 16) {G : Nat} (hG : G ≤ 17) (R r : Nat) : -1310720 ≤ rcO m G R r ∧ rcO m G R r ≤ 1310720 := by
  unfold rcO
  have h1 := rcS_bd hm r G
  have h2 := rcS_bd hm r (G + 1)
  split <;> omega
def rrF (m r : Nat) : Int := byH m r
theorem rcO_all (m : Nat) : fr (rcO m (m + 1) 0) (m + 1) = fr (rrF m) (m + 1) := frw_congr fun j hj => by
  unfold rcO rrF byH
  rw [if_neg (by omega), rcS_all]
end Go.Proofs.Ytachijliaedndaa
