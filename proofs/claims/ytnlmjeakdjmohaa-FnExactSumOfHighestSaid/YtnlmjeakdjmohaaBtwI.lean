/- The program's countApart, CountBetween, CountBothTouched, IsBetween. -/
import Derived.Test.YtnlmjeakdjmohaaJumpI
import Derived.Test.YtnlmjeakdjmohaaTchI
import Derived.Test.YtnlmjeakdjmohaaBthS
import Derived.Test.YtnlmjeakdjmohaaHeightsR
namespace Go.Proofs.Ytnlmjeakdjmohaa
open Go.RowKit
set_option linter.unusedVariables false
theorem tz_bd {n : Nat} (x : Int) (hn : n ≤ 40) : 0 ≤ tz n x ∧ tz n x ≤ 1099511627776 := by rw [← toZ_tz]; exact toZ_bd _ _ (by omega)
theorem jS_bd {n : Nat} (hn : n ≤ 40) : ∀ (m : Nat) (e a b : Int), -(1099511627776 * (m : Int)) ≤ jS m n e a b ∧ jS m n e a b ≤ 1099511627776 * m
  | 0, _, _, _ => by simp [jS]
  | m + 1, e, a, b => by
    have h1 := jS_bd hn m (2 * a - e) b a
    have h2 := tz_bd (2 * a - e) hn
    rw [jS]
    omega
def caV (n e lo hi : Int) : Int := if lo < 0 ∧ 0 < hi then btZ n e (lo + 1) (hi - 1) else 0
theorem caV_no {n e lo hi : Int} (h : (inB 0 (lo + 1) (hi - 1) && inB e (lo + 1) (hi - 1)) = false) : caV n e lo hi = 0 := by
  unfold caV
  split
  · rename_i h2
    have h3 : inB 0 (lo + 1) (hi - 1) = true := by unfold inB; simp; omega
    rw [h3, Bool.true_and] at h
    unfold btZ
    rw [h]
    rfl
  · rfl
set_option maxRecDepth 100000 in
set_option maxHeartbeats 800000 in
theorem countApart_ret (a b lo hi : Int) (w : World) (hn : 0 ≤ a ∧ 0 ≤ b ∧ a + b ≤ 40) (hl : -100 ≤ lo ∧ lo ≤ 100) (hh : -100 ≤ hi ∧ hi ≤ 100) :
    Calls Try.prog 133 #[.int .i64 a, .int .i64 b, .agg #[.int .i64 lo, .int .i64 hi]] w (Ret w (.int .i64 (caV (a + b) (a - b) lo hi))) := by
  obtain ⟨l1, l2⟩ := hl
  obtain ⟨h1, h2⟩ := hh
  obtain ⟨n1, n2, n3⟩ := hn
  have HO : Hid (Calls Try.prog 150 #[.agg #[.int .i64 (lo + 1), .int .i64 (hi - 1)], .slice (some ⟨w.heap.size + 1 + 1, 0, none⟩) 2 2] (((w.alloc (.cells #[.int .i64 lo, .int .i64 hi] 116)).alloc (.cells #[.int .i64 (lo + 1), .int .i64 (hi - 1)] 116)).alloc (.cells #[.int .i64 0, .int .i64 (a - b)] 3)) fun e w' => e = .returned (.bool (inB 0 (lo + 1) (hi - 1) && inB (a - b) (lo + 1) (hi - 1))) ∧ w'.cell? ⟨w.heap.size, 0, none⟩ = some (.int .i64 lo) ∧ w'.cell? ⟨w.heap.size, 1, none⟩ = some (.int .i64 hi) ∧ Below w.heap.size w w') := Lib.hid (by
    generalize hW : ((w.alloc (.cells #[.int .i64 lo, .int .i64 hi] 116)).alloc (.cells #[.int .i64 (lo + 1), .int .i64 (hi - 1)] 116)) = W
    have hsz : W.heap.size = w.heap.size + 1 + 1 := by rw [← hW]; simp
    have hb : Below w.heap.size w W := by rw [← hW]; exact ((Below.refl _ _).alloc (Nat.le_refl _) _).alloc (by simp) _
    have c0 : W.cell? ⟨w.heap.size, 0, none⟩ = some (.int .i64 lo) := by rw [← hW]; simp [go_sem]
    have c1 : W.cell? ⟨w.heap.size, 1, none⟩ = some (.int .i64 hi) := by rw [← hW]; simp [go_sem]
    have h := holds_two (lo + 1) (hi - 1) 0 (a - b) W
    rw [hsz] at h
    exact h.mono fun e w' ⟨q1, q2⟩ => ⟨q1, (q2.cell (p := ⟨w.heap.size, 0, none⟩) (show w.heap.size < w.heap.size + 1 + 1 by omega)).trans c0, (q2.cell (p := ⟨w.heap.size, 1, none⟩) (show w.heap.size < w.heap.size + 1 + 1 by omega)).trans c1, hb.trans (q2.mono (by omega))⟩)
  rcases Bool.eq_false_or_eq_true (inB 0 (lo + 1) (hi - 1) && inB (a - b) (lo + 1) (hi - 1)) with hq | hq
  · have hq2 := hq
    rw [Bool.and_eq_true] at hq2
    have g1 := inB_of hq2.1
    have g2 := inB_of hq2.2
    obtain ⟨n, hnn⟩ : ∃ n : Nat, a + b = n := ⟨(a + b).toNat, by omega⟩
    have hn40 : n ≤ 40 := by omega
    have E : caV (a + b) (a - b) lo hi = tz n (a - b) - jS 100 n (a - b) lo hi - jS 100 n (a - b) hi lo := by
      rw [jS_btZ (by omega) (by omega) (by omega) (by omega), hnn]
      unfold caV
      rw [if_pos (by omega)]
    have H1 : Hid (∀ w, Calls Try.prog 151 #[.int .i64 (a + b), .int .i64 (a - b), .int .i64 lo, .int .i64 hi] w fun e w' => e = .returned (.int .i64 (jS 100 n (a - b) lo hi)) ∧ w = w') := Lib.hid fun w => by
      rw [hnn]
      exact sumOfJumps_ret n _ _ _ w hn40 (by omega) (by omega) (by omega) (.inl (by omega))
    have H2 : Hid (∀ w, Calls Try.prog 151 #[.int .i64 (a + b), .int .i64 (a - b), .int .i64 hi, .int .i64 lo] w fun e w' => e = .returned (.int .i64 (jS 100 n (a - b) hi lo)) ∧ w = w') := Lib.hid fun w => by
      rw [hnn]
      exact sumOfJumps_ret n _ _ _ w hn40 (by omega) (by omega) (by omega) (.inr (by omega))
    have H3 : Hid (∀ w, Calls Try.prog 138 #[.int .i64 (a + b), .int .i64 (a - b)] w fun e w' => e = .returned (.int .i64 (tz n (a - b))) ∧ w = w') := Lib.hid fun w => by
      rw [hnn, ← toZ_tz]
      exact countToEnd_ret _ _ w (by omega) (by omega)
    have b1 := tz_bd (a - b) hn40
    have b2 := jS_bd hn40 100 (a - b) lo hi
    have b3 := jS_bd hn40 100 (a - b) hi lo
    rw [E]
    rw [hq] at HO
    clear E hq hq2 hnn
    generalize tz n (a - b) = z1 at *
    generalize jS 100 n (a - b) lo hi = z2 at *
    generalize jS 100 n (a - b) hi lo = z3 at *
    have tok1 : True := trivial
    go_enter Try.func133, Try.ntmps133
    go_wp2_with (first
      | (go_at_call 150; refine HO.out.mono ?_; rintro e w1 ⟨rfl, k0, k1, hb1⟩)
      | (have _t := tok1; go_at_call 151; clear _t tok1; refine (H1.out _).mono ?_; rintro e w2 ⟨rfl, rfl⟩)
      | (go_at_call 151; refine (H2.out _).mono ?_; rintro e w3 ⟨rfl, rfl⟩)
      | (go_at_call 138; refine (H3.out _).mono ?_; rintro e w4 ⟨rfl, rfl⟩))
    go_ret
    exact ⟨rfl, hb1⟩
  · rw [caV_no hq]
    rw [hq] at HO
    go_enter Try.func133, Try.ntmps133
    go_wp2_with (go_at_call 150; refine HO.out.mono ?_; rintro e w1 ⟨rfl, k0, k1, hb1⟩)
    go_ret
    exact ⟨rfl, hb1⟩
set_option maxHeartbeats 400000 in
theorem countBetweenI_ret (a b lo hi : Int) (w : World) : Calls Try.prog 90 #[.int .i64 a, .int .i64 b, .int .i64 lo, .int .i64 hi] w (Ret w (.tuple #[.int .i64 (cbV a b lo hi), .bool (cbOk a b lo hi)])) := by
  have HC : Hid (∀ w, Calls Try.prog 88 #[.int .i64 a, .int .i64 b] w fun e w' => e = .returned (.tuple #[.int .i64 (cntV a b), .bool (cntOk a b)]) ∧ w = w') := Lib.hid (count_ret a b)
  have HI : Hid (∀ w, Calls Try.prog 132 #[.int .i64 lo, .int .i64 hi] w (Ret w (.bool (walB lo hi)))) := Lib.hid (areWalls_ret lo hi)
  have hacc := Below.refl w.heap.size w
  rcases Bool.eq_false_or_eq_true (cntOk a b) with hc | hc <;> rcases Bool.eq_false_or_eq_true (walB lo hi) with hw | hw
  · have e1 : cbOk a b lo hi = true := by simp [cbOk, hc, hw]
    have cc := cntOk_of hc
    have hww := walB_of hw
    have e2 : cbV a b lo hi = caV (a + b) (a - b) (lo - 1) (hi + 1) := by
      rw [cbV, if_pos e1]
      unfold caV
      rw [if_pos (by omega), show lo - 1 + 1 = lo by omega, show hi + 1 - 1 = hi by omega]
    have HA : Hid (∀ w, Calls Try.prog 133 #[.int .i64 a, .int .i64 b, .agg #[.int .i64 (lo - 1), .int .i64 (hi + 1)]] w (Ret w (.int .i64 (caV (a + b) (a - b) (lo - 1) (hi + 1))))) := Lib.hid fun w => countApart_ret a b _ _ w cc (by omega) (by omega)
    rw [e1, e2]
    rw [hc] at HC
    rw [hw] at HI
    clear e1 e2
    generalize caV (a + b) (a - b) (lo - 1) (hi + 1) = z at *
    go_enter Try.func90, Try.ntmps90
    go_wp2_with (first | (go_at_call 88; refine (HC.out _).mono ?_; rintro e w' ⟨rfl, rfl⟩) | (go_at_call 132; refine (HI.out _).mono ?_; rintro e w1 ⟨rfl, hb1⟩; replace hacc := hacc.trans (hb1.mono hacc.size); clear hb1) | (go_at_call 133; refine (HA.out _).mono ?_; rintro e w1 ⟨rfl, hb1⟩; replace hacc := hacc.trans (hb1.mono hacc.size); clear hb1))
    go_ret2
    exact ⟨rfl, hacc⟩
  all_goals
    have e1 : cbOk a b lo hi = false := by simp [cbOk, hc, hw]
    have e2 : cbV a b lo hi = 0 := by rw [cbV, e1]; rfl
    rw [e1, e2]
    rw [hc] at HC
    rw [hw] at HI
    clear e1 e2
    go_enter Try.func90, Try.ntmps90
    go_wp2_with (first | (go_at_call 88; refine (HC.out _).mono ?_; rintro e w' ⟨rfl, rfl⟩) | (go_at_call 132; refine (HI.out _).mono ?_; rintro e w1 ⟨rfl, hb1⟩; replace hacc := hacc.trans (hb1.mono hacc.size); clear hb1))
    go_ret2
    exact ⟨rfl, hacc⟩
theorem bb_eq {n e lo hi : Int} (hl : lo ≤ 0) (hh : 0 ≤ hi) : bbV n e lo hi = tchZ n e lo + tchZ n e hi - (toZ n e - caV n e lo hi) := by
  unfold bbV
  split
  · rename_i h
    obtain ⟨rfl, rfl⟩ := h
    have h1 : tchZ n e 0 = toZ n e := by
      unfold tchZ
      rw [if_pos]
      unfold inB
      rw [Bool.and_eq_true, decide_eq_true_iff, decide_eq_true_iff]
      constructor <;> split <;> omega
    have h2 : caV n e 0 0 = 0 := by unfold caV; rw [if_neg (by omega)]
    rw [h1, h2]
    omega
  · unfold caV
    omega
theorem caV_bd {n e lo hi : Int} (hn : 0 ≤ n ∧ n ≤ 40) : -(89060441849856) ≤ caV n e lo hi ∧ caV n e lo hi ≤ 89060441849856 := by
  unfold caV
  split
  · exact btZ_bd _ _ _ _ hn
  · omega
/-! ### IsBetween -/
theorem beGo_all (s : ByteArray) (lo hi : Int) : ∀ n k, beGo s lo hi n k = (List.range' k n).all fun j => inB (hAt s j) lo hi
  | 0, k => rfl
  | n + 1, k => by rw [beGo, List.range'_succ, List.all_cons, beGo_all s lo hi n (k + 1)]
theorem holB_hts (s : ByteArray) (lo hi : Int) : holB lo hi (hts s) = beB s lo hi := by
  unfold holB hts beB
  rw [beGo_all, List.all_map, List.range_eq_range']
  rfl
end Go.Proofs.Ytnlmjeakdjmohaa
