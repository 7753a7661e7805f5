/- The model's miLook and AllBetween. -/
import Derived.Test.YtlgiamgjimffnaaAbMath
import Derived.Test.YtlgiamgjimffnaaLook0
import Derived.Test.YtlgiamgjimffnaaSumS
namespace Go.Proofs.Ytlgiamgjimffnaa
open Go.RowKit
set_option linter.unusedVariables false
theorem LK.below {p : Nat} {v : Value} {xs : List ByteArray} {W W' : World} (h : LK p v xs W) (hb : Below W.heap.size W W') : LK p v xs W' :=
  ⟨(hb.cell (p := ⟨p, 0, none⟩) h.2.2.1).trans h.1, (hb.frozen (p := ⟨p, 0, none⟩) h.2.2.1).trans h.2.1, Nat.lt_of_lt_of_le h.2.2.1 hb.size, SRow.below h.2.2.2 hb⟩
theorem behind_step (lo hi : Int) (n : Nat) (t u d : Int) (s : ByteArray) : behind s (btL lo hi (n + 1) t u d) =
    (if 0 < d ∧ lo ≤ t - 1 then behind (s ++ (⟨#[68]⟩ : ByteArray)) (btL lo hi n (t - 1) u (d - 1)) else []) ++ (if 0 < u ∧ t + 1 ≤ hi then behind (s ++ (⟨#[85]⟩ : ByteArray)) (btL lo hi n (t + 1) (u - 1) d) else []) := by
  rw [btL, behind_app]
  congr 1
  · split
    · exact behind_cons _ _ _
    · rfl
  · split
    · exact behind_cons _ _ _
    · rfl
set_option maxRecDepth 100000 in
set_option maxHeartbeats 4000000 in
theorem mlook_any (lo hi : Int) (p : Nat) (hl : -40 ≤ lo ∧ lo ≤ 0) (hh : 0 ≤ hi ∧ hi ≤ 40) : ∀ (n : Nat) (t u d : Int) (s : ByteArray) (v : Value) (xs : List ByteArray) (W : World),
    (n : Int) = u + d → 0 ≤ u → 0 ≤ d → n ≤ 40 → (lo ≤ t ∧ t ≤ hi) → s.size + n ≤ 40 → xs.length + (btL lo hi n t u d).length ≤ 300 → LK p v xs W →
    Calls Try.prog 109 #[.string s, .int .i64 t, .int .i64 u, .int .i64 d, .int .i64 lo, .int .i64 hi, .pointer (some ⟨p, 0, none⟩)] W (LookRet p (xs ++ behind s (btL lo hi n t u d)) W) := by
  intro n
  induction n with
  | zero =>
    intro t u d s v xs W hn hu hd h40 ht hsz hlen hLK
    have hz : (u + d == 0) = true := by simp; omega
    have hcnt := btL_count (lo := lo) (hi := hi) (n := 0) (s := t) hu hd hn ht
    have h1 : btZ (u + d) (u - d) (lo - t) (hi - t) = 1 := by rw [← hcnt]; rfl
    have HC : Hid (∀ w, Calls Try.prog 107 #[.int .i64 (u + d), .int .i64 (u - d), .int .i64 (lo - t), .int .i64 (hi - t)] w (Ret w (.int .i64 1))) := Lib.hid fun w => by
      have := miCount_ret (u + d) (u - d) (lo - t) (hi - t) w (by omega) (by omega) (by omega) (by omega)
      rw [h1] at this
      exact this
    have HB : Hid (behind s (btL lo hi 0 t u d) = [s]) := Lib.hid (behind_nil s)
    rw [HB.out]
    have hxl : xs.length ≤ 300 := by omega
    obtain ⟨A, c, rfl⟩ := hLK.2.2.2.shape
    have HLK := Lib.hid hLK
    have hple : p ≤ W.heap.size := Nat.le_of_lt hLK.2.2.1
    obtain ⟨t1, t2⟩ := ht
    obtain ⟨l1, l2⟩ := hl
    obtain ⟨g1, g2⟩ := hh
    clear hLK hlen hcnt h1
    generalize hxn : xs.length = q at *
    have HXN := Lib.hid hxn
    clear hxn
    go_enter Try.func109, Try.ntmps109
    go_wp2_with (first | (go_at_call 107; refine (HC.out _).mono ?_; rintro e W1 ⟨rfl, hb1⟩; have hLK1 := HLK.out.below hb1; have hc1 := hLK1.1; have hf1 := hLK1.2.1; have hps1 := hLK1.2.2.1) | (at_builtin; refine wpList_pushS (.tmp 35) (.tmp 37) rfl rfl (p + 1) _ xs rfl hLK1.2.2.2 rfl (by rw [HXN.out]; omega) (by omega) ?_; intro v' w' hrow' hg' hat'; obtain ⟨A2, c2, rfl⟩ := hrow'.shape; have hcc := (cell_grownL hg' hps1 (fun e => by have := (hLK1.2.2.2.blk p e.symm).1; omega) 0).trans hc1; have hff := (frozen_grownL hg' hps1 (fun e => by have := (hLK1.2.2.2.blk p e.symm).1; omega) 0).trans hf1))
    have hfin := hLK1.push hg' hrow'
    have hln : (xs ++ [s]).length = xs.length + 1 := by simp
    rw [hln] at hfin
    go_end0
    exact ⟨rfl, _, hfin.1, (hb1.mono hple).trans hfin.2⟩
  | succ n ih =>
    intro t u d s v xs W hn hu hd h40 ht hsz hlen hLK
    have hz : (u + d == 0) = false := by simp; omega
    have hcnt := btL_count (lo := lo) (hi := hi) (n := n + 1) (s := t) hu hd hn ht
    have HC : Hid (∀ w, Calls Try.prog 107 #[.int .i64 (u + d), .int .i64 (u - d), .int .i64 (lo - t), .int .i64 (hi - t)] w (Ret w (.int .i64 ((btL lo hi (n + 1) t u d).length : Nat)))) := Lib.hid fun w => by
      rw [hcnt]
      exact miCount_ret (u + d) (u - d) (lo - t) (hi - t) w (by omega) (by omega) (by omega) (by omega)
    have HLK := Lib.hid hLK
    have hple : p ≤ W.heap.size := Nat.le_of_lt hLK.2.2.1
    have hss : s.size ≤ 40 := by omega
    have hsa : ∀ c : UInt8, (s ++ (⟨#[c]⟩ : ByteArray)).size = s.size + 1 := fun c => by rw [ByteArray.size_append]; rfl
    have IHD : Hid (0 < d → lo ≤ t - 1 → ∀ v1 W1, LK p v1 xs W1 → Calls Try.prog 109 #[.string (s ++ (⟨#[68]⟩ : ByteArray)), .int .i64 (t - 1), .int .i64 u, .int .i64 (d - 1), .int .i64 lo, .int .i64 hi, .pointer (some ⟨p, 0, none⟩)] W1 (LookRet p (xs ++ behind (s ++ (⟨#[68]⟩ : ByteArray)) (btL lo hi n (t - 1) u (d - 1))) W1)) :=
      Lib.hid fun c1 c2 v1 W1 hL1 => ih (t - 1) u (d - 1) _ v1 xs W1 (by omega) hu (by omega) (by omega) (by omega) (by rw [hsa]; omega) (by
        rw [btL, if_pos ⟨c1, c2⟩, List.length_append, List.length_map] at hlen
        omega) hL1
    have IHU : Hid (0 < u → t + 1 ≤ hi → ∀ v1 xs1 W1, LK p v1 xs1 W1 → xs1.length + (btL lo hi n (t + 1) (u - 1) d).length ≤ 300 → Calls Try.prog 109 #[.string (s ++ (⟨#[85]⟩ : ByteArray)), .int .i64 (t + 1), .int .i64 (u - 1), .int .i64 d, .int .i64 lo, .int .i64 hi, .pointer (some ⟨p, 0, none⟩)] W1 (LookRet p (xs1 ++ behind (s ++ (⟨#[85]⟩ : ByteArray)) (btL lo hi n (t + 1) (u - 1) d)) W1)) :=
      Lib.hid fun c1 c2 v1 xs1 W1 hL1 hx1 => ih (t + 1) (u - 1) d _ v1 xs1 W1 (by omega) (by omega) hd (by omega) (by omega) (by rw [hsa]; omega) hx1 hL1
    have HXS : Hid (0 < u → t + 1 ≤ hi → xs.length + (behind (s ++ (⟨#[68]⟩ : ByteArray)) (if 0 < d ∧ lo ≤ t - 1 then btL lo hi n (t - 1) u (d - 1) else [])).length + (btL lo hi n (t + 1) (u - 1) d).length ≤ 300) := Lib.hid fun c1 c2 => by
      rw [btL, if_pos (show 0 < u ∧ t + 1 ≤ hi from ⟨c1, c2⟩), List.length_append, List.length_map] at hlen
      unfold behind
      rw [List.length_map]
      split at hlen
      · rename_i hq; rw [if_pos hq]; rw [List.length_map] at hlen; omega
      · rename_i hq; rw [if_neg hq]; omega
    have HST := Lib.hid (behind_step lo hi n t u d s)
    have hlz : ((btL lo hi (n + 1) t u d).length : Int) ≤ 300 := by omega
    have HNIL : Hid ((btL lo hi (n + 1) t u d).length = 0 → behind s (btL lo hi (n + 1) t u d) = []) := Lib.hid fun h => by rw [List.eq_nil_of_length_eq_zero h]; rfl
    obtain ⟨t1, t2⟩ := ht
    obtain ⟨l1, l2⟩ := hl
    obtain ⟨g1, g2⟩ := hh
    have u40 : u ≤ 40 := by omega
    have d40 : d ≤ 40 := by omega
    clear ih hcnt hlen hsa
    generalize (btL lo hi (n + 1) t u d).length = m at *
    by_cases hm : m = 0
    · rw [HNIL.out hm, List.append_nil]
      subst hm
      clear HNIL HST IHD IHU HXS
      go_enter Try.func109, Try.ntmps109
      go_wp2_with (go_at_call 107; refine (HC.out _).mono ?_; rintro e W1 ⟨rfl, hb1⟩; have hLK1 := HLK.out.below hb1; have hc1 := hLK1.1; have hf1 := hLK1.2.1; have hps1 := hLK1.2.2.1)
      go_end0
      exact ⟨rfl, _, hLK1, hb1.mono hple⟩
    have hmz : ((m : Int) == 0) = false := beq_eq_false_iff_ne.2 (by omega)
    rw [HST.out]
    clear HNIL HST hn hm
    have hDD : (0 < d ∧ lo ≤ t - 1) ∨ (¬ 0 < d) ∨ (0 < d ∧ ¬ lo ≤ t - 1) := by omega
    have hUU : (0 < u ∧ t + 1 ≤ hi) ∨ (¬ 0 < u) ∨ (0 < u ∧ ¬ t + 1 ≤ hi) := by omega
    rcases hDD with ⟨c1, c2⟩ | hnD
    · have HD := Lib.hid (IHD.out c1 c2)
      rw [if_pos ⟨c1, c2⟩]
      rcases hUU with ⟨c3, c4⟩ | hnU
      · have HU := Lib.hid (IHU.out c3 c4)
        have HX := Lib.hid (HXS.out c3 c4)
        rw [if_pos ⟨c1, c2⟩] at HX
        rw [if_pos ⟨c3, c4⟩]
        clear IHD IHU HXS
        generalize behind (s ++ (⟨#[68]⟩ : ByteArray)) (btL lo hi n (t - 1) u (d - 1)) = bD at *
        generalize behind (s ++ (⟨#[85]⟩ : ByteArray)) (btL lo hi n (t + 1) (u - 1) d) = bU at *
        have tok1 : True := trivial
        go_enter Try.func109, Try.ntmps109
        go_wp2_with (first | (go_at_call 107; refine (HC.out _).mono ?_; rintro e W1 ⟨rfl, hb1⟩; have hLK1 := HLK.out.below hb1; have hc1 := hLK1.1; have hf1 := hLK1.2.1; have hps1 := hLK1.2.2.1) | (go_at_call 109; have _t := tok1; refine (HD.out _ _ hLK1).mono ?_; rintro e W2 ⟨rfl, v2, hL2, hb2⟩; clear tok1 _t) | (go_at_call 109; refine (HU.out _ _ _ hL2 (by rw [List.length_append]; have := HX.out; omega)).mono ?_; rintro e W3 ⟨rfl, v3, hL3, hb3⟩))
        go_end0
        exact ⟨rfl, _, by rw [← List.append_assoc]; exact hL3, ((hb1.mono hple).trans hb2).trans hb3⟩
      · rw [if_neg (by omega), List.append_nil]
        clear IHD IHU HXS
        generalize behind (s ++ (⟨#[68]⟩ : ByteArray)) (btL lo hi n (t - 1) u (d - 1)) = bD at *
        rcases hnU with e1 | ⟨e1, e2⟩
        all_goals
          go_enter Try.func109, Try.ntmps109
          go_wp2_with (first | (go_at_call 107; refine (HC.out _).mono ?_; rintro e W1 ⟨rfl, hb1⟩; have hLK1 := HLK.out.below hb1; have hc1 := hLK1.1; have hf1 := hLK1.2.1; have hps1 := hLK1.2.2.1) | (go_at_call 109; refine (HD.out _ _ hLK1).mono ?_; rintro e W2 ⟨rfl, v2, hL2, hb2⟩))
          go_end0
          exact ⟨rfl, _, hL2, (hb1.mono hple).trans hb2⟩
    · rw [if_neg (show ¬ (0 < d ∧ lo ≤ t - 1) by omega), List.nil_append]
      rcases hUU with ⟨c3, c4⟩ | hnU
      · have HU := Lib.hid (IHU.out c3 c4)
        have HX := Lib.hid (HXS.out c3 c4)
        rw [if_neg (show ¬ (0 < d ∧ lo ≤ t - 1) by omega)] at HX
        rw [if_pos ⟨c3, c4⟩]
        clear IHD IHU HXS
        generalize behind (s ++ (⟨#[85]⟩ : ByteArray)) (btL lo hi n (t + 1) (u - 1) d) = bU at *
        rcases hnD with e1 | ⟨e1, e2⟩
        all_goals
          go_enter Try.func109, Try.ntmps109
          go_wp2_with (first | (go_at_call 107; refine (HC.out _).mono ?_; rintro e W1 ⟨rfl, hb1⟩; have hLK1 := HLK.out.below hb1; have hc1 := hLK1.1; have hf1 := hLK1.2.1; have hps1 := hLK1.2.2.1) | (go_at_call 109; refine (HU.out _ _ _ hLK1 (by have := HX.out; simp [behind] at this; omega)).mono ?_; rintro e W2 ⟨rfl, v2, hL2, hb2⟩))
          go_end0
          exact ⟨rfl, _, hL2, (hb1.mono hple).trans hb2⟩
      · rw [if_neg (by omega), List.append_nil]
        clear IHD IHU HXS
        rcases hnD with e1 | ⟨e1, e2⟩
        all_goals
          rcases hnU with f1 | ⟨f1, f2⟩
          all_goals
            go_enter Try.func109, Try.ntmps109
            go_wp2_with (go_at_call 107; refine (HC.out _).mono ?_; rintro e W1 ⟨rfl, hb1⟩; have hLK1 := HLK.out.below hb1; have hc1 := hLK1.1; have hf1 := hLK1.2.1; have hps1 := hLK1.2.2.1)
            go_end0
            exact ⟨rfl, _, hLK1, hb1.mono hple⟩
def abOk (a b lo hi : Int) : Bool := cbOk a b lo hi && decide (btZ (a + b) (a - b) lo hi ≤ 300)
def abV (a b lo hi : Int) : List ByteArray := if abOk a b lo hi = true then lvT lo hi a b (a + b).toNat else []
theorem ab_len {a b lo hi : Int} (h : cbOk a b lo hi = true) : ((lvT lo hi a b (a + b).toNat).length : Int) = btZ (a + b) (a - b) lo hi := by
  unfold cbOk at h
  rw [Bool.and_eq_true] at h
  obtain ⟨c1, c2, c3⟩ := cntOk_of h.1
  have hw := walB_of h.2
  unfold lvT
  rw [mkT_length, btL_count c1 c2 (by omega) (by omega), show lo - 0 = lo by omega, show hi - 0 = hi by omega]
theorem abV_len (a b lo hi : Int) : (abV a b lo hi).length ≤ 1048577 := by
  unfold abV
  split
  · rename_i h
    unfold abOk at h
    rw [Bool.and_eq_true, decide_eq_true_iff] at h
    have := ab_len h.1
    omega
  · simp
set_option maxHeartbeats 1000000 in
theorem specAllBetween_ret (a b lo hi : Int) (w : World) : Calls Try.prog 60 #[.int .i64 a, .int .i64 b, .int .i64 lo, .int .i64 hi] w (StrsRet w (abOk a b lo hi) (abV a b lo hi)) := by
  have HW := Lib.hid (miWalls_any lo hi)
  rcases Bool.eq_false_or_eq_true (cntOk a b) with hc | hc <;> rcases Bool.eq_false_or_eq_true (walB lo hi) with hw | hw
  · have ec : cbOk a b lo hi = true := by simp [cbOk, hc, hw]
    obtain ⟨c1, c2, c3⟩ := cntOk_of hc
    have hww := walB_of hw
    have HC : Hid (∀ w, Calls Try.prog 107 #[.int .i64 (a + b), .int .i64 (a - b), .int .i64 lo, .int .i64 hi] w (Ret w (.int .i64 (btZ (a + b) (a - b) lo hi)))) := Lib.hid fun w => miCount_ret _ _ lo hi w (by omega) (by omega) (by omega) (by omega)
    have hln := ab_len ec
    by_cases h300 : btZ (a + b) (a - b) lo hi ≤ 300
    · have e1 : abOk a b lo hi = true := by simp [abOk, ec, h300]
      have e2 : abV a b lo hi = lvT lo hi a b (a + b).toNat := by rw [abV, if_pos e1]
      have HK : Hid (∀ p W, LK p (.slice none 0 0) [] W → Calls Try.prog 109 #[.string ⟨#[]⟩, .int .i64 0, .int .i64 a, .int .i64 b, .int .i64 lo, .int .i64 hi, .pointer (some ⟨p, 0, none⟩)] W (LookRet p (lvT lo hi a b (a + b).toNat) W)) := Lib.hid fun p W hL => by
        have hlt : (btL lo hi (a + b).toNat 0 a b).length ≤ 300 := by unfold lvT at hln; rw [mkT_length] at hln; omega
        have := mlook_any lo hi p hww.1 hww.2 (a + b).toNat 0 a b ByteArray.empty _ [] W (by omega) c1 c2 (by omega) (by omega) (by have : ByteArray.empty.size = 0 := rfl; omega) (by simp; omega) hL
        rw [List.nil_append, behind_none] at this
        exact this
      have HL0 : Hid (∀ w : World, LK w.heap.size (.slice none 0 0) [] (w.alloc (.cells #[.slice none 0 0] 43))) := Lib.hid fun w => ⟨by simp [go_sem], by simp [go_sem], by simp, SRow.nil _ _⟩
      rw [e1, e2]
      clear e1 e2 hln
      generalize lvT lo hi a b (a + b).toNat = L at *
      generalize btZ (a + b) (a - b) lo hi = z at *
      go_enter Try.func60, Try.ntmps60
      go_wp2_with (first | (go_at_call 96; refine (steps_any a b _).mono ?_; rintro e w' ⟨rfl, rfl⟩) | (go_at_call 104; refine (HW.out _).mono ?_; rintro e w' ⟨rfl, rfl⟩) | (go_at_call 107; refine (HC.out _).mono ?_; rintro e w1 ⟨rfl, hb1⟩) | (go_at_call 109; refine (HK.out _ _ (HL0.out _)).mono ?_; rintro e w2 ⟨rfl, v2, hL2, hb2⟩; have hcl := hL2.1; obtain ⟨A2, cc2, rfl⟩ := hL2.2.2.2.shape))
      go_ret2
      exact ⟨_, rfl, hL2.2.2.2.mono (by have := hb1.size; omega), hb1.trans ((((Below.refl _ _).alloc (Nat.le_refl _) _).trans hb2).mono hb1.size)⟩
    · have e1 : abOk a b lo hi = false := by simp [abOk, h300]
      have e2 : abV a b lo hi = [] := by rw [abV, e1]; rfl
      rw [e1, e2]
      clear e1 e2 hln
      generalize btZ (a + b) (a - b) lo hi = z at *
      have hz : 300 < z := by omega
      clear h300
      go_enter Try.func60, Try.ntmps60
      go_wp2_with (first | (go_at_call 96; refine (steps_any a b _).mono ?_; rintro e w' ⟨rfl, rfl⟩) | (go_at_call 104; refine (HW.out _).mono ?_; rintro e w' ⟨rfl, rfl⟩) | (go_at_call 107; refine (HC.out _).mono ?_; rintro e w1 ⟨rfl, hb1⟩))
      go_ret2
      exact ⟨_, rfl, SRow.nil _ _, hb1⟩
  all_goals
    have e1 : abOk a b lo hi = false := by simp [abOk, cbOk, hc, hw]
    have e2 : abV a b lo hi = [] := by rw [abV, e1]; rfl
    rw [e1, e2]
    clear e1 e2
    go_enter Try.func60, Try.ntmps60
    go_wp2_with (first | (go_at_call 96; refine (steps_any a b _).mono ?_; rintro e w' ⟨rfl, rfl⟩) | (go_at_call 104; refine (HW.out _).mono ?_; rintro e w' ⟨rfl, rfl⟩))
    go_ret2
    exact ⟨_, rfl, SRow.nil _ _, Below.refl _ _⟩
end Go.Proofs.Ytlgiamgjimffnaa
