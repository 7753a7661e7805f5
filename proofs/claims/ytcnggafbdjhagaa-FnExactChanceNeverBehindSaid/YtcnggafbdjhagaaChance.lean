/- ChanceAhead, ChanceNeverBehind. -/
import Derived.Test.YtcnggafbdjhagaaBalCount
import Derived.Test.YtcnggafbdjhagaaRatio
namespace Go.Proofs.Ytcnggafbdjhagaa
open Go.RowKit
theorem aheadN_bd {c a b k : Int} (hc : 0 ≤ c ∧ c ≤ 1099511627776) (h : Asked a b k) : 0 ≤ aheadN c a b k ∧ aheadN c a b k ≤ 70368744177664 := by
  have hkb := h.kb
  have h1 := h.a0
  have h2 := h.b0
  have h3 := h.ab
  unfold aheadN
  split
  · omega
  · split
    · omega
    · have hm := mul_bd hc (show 0 ≤ a - k * b ∧ a - k * b ≤ 41 by omega)
      refine ⟨Int.ediv_nonneg hm.1 (by omega), ?_⟩
      have := Int.ediv_le_self (b := a + b) hm.1
      omega
theorem neverN_bd {c a b k : Int} (hc : 0 ≤ c ∧ c ≤ 1099511627776) (h : Asked a b k) : 0 ≤ neverN c a b k ∧ neverN c a b k ≤ 70368744177664 := by
  have hkb := h.kb
  have h1 := h.a0
  have h2 := h.b0
  have h3 := h.ab
  unfold neverN
  split
  · omega
  · have hm := mul_bd hc (show 0 ≤ a + 1 - k * b ∧ a + 1 - k * b ≤ 41 by omega)
    refine ⟨Int.ediv_nonneg hm.1 (by omega), ?_⟩
    have := Int.ediv_le_self (b := a + 1) hm.1
    omega
theorem cntV_pos {a b k : Int} (h : Asked a b k) : 0 < cntV a b := by
  have h1 := h.a0
  have h2 := h.b0
  have h3 := h.ab
  obtain ⟨u, rfl⟩ := Int.eq_ofNat_of_zero_le h1
  obtain ⟨d, rfl⟩ := Int.eq_ofNat_of_zero_le h2
  have := chs_pos (d + u) u (by omega)
  rw [cntV_yes (by omega)]
  omega
/-- the chance: numerator, denominator -/
def chanceP (n a b k : Int) : Int := if allOk a b k then numR n.toNat (cntV a b).toNat else 0
def chanceQ (n a b k : Int) : Int := if allOk a b k then denR n.toNat (cntV a b).toNat else 0
theorem chanceP_yes {n a b k : Int} (h : allOk a b k = true) : chanceP n a b k = numR n.toNat (cntV a b).toNat := by unfold chanceP; rw [if_pos h]
theorem chanceP_no {n a b k : Int} (h : allOk a b k = false) : chanceP n a b k = 0 := by unfold chanceP; rw [h]; rfl
theorem chanceQ_yes {n a b k : Int} (h : allOk a b k = true) : chanceQ n a b k = denR n.toNat (cntV a b).toNat := by unfold chanceQ; rw [if_pos h]
theorem chanceQ_no {n a b k : Int} (h : allOk a b k = false) : chanceQ n a b k = 0 := by unfold chanceQ; rw [h]; rfl
theorem below_two {w w1 : World} {o : Obj} (h : Below (w.alloc o).heap.size (w.alloc o) w1) : Below w.heap.size w w1 := ((Below.refl _ _).alloc (Nat.le_refl _) _).trans (h.mono (by simp))
theorem bcell {W w1 : World} {B : Nat} (hb : Below B W w1) : (∀ b o, b < B → w1.cell? ⟨b, o, none⟩ = W.cell? ⟨b, o, none⟩) ∧ (∀ b o, b < B → w1.frozen? ⟨b, o, none⟩ = W.frozen? ⟨b, o, none⟩) :=
  ⟨fun b o h => hb.cell (p := ⟨b, o, none⟩) h, fun b o h => hb.frozen (p := ⟨b, o, none⟩) h⟩

set_option maxHeartbeats 1000000 in
theorem chanceAhead_ret (a b k : Int) (w : World) : Calls Try.prog 37 #[.int .i64 a, .int .i64 b, .int .i64 k] w (Ret w (.tuple #[.agg #[.int .i64 (chanceP (aheadV a b k) a b k), .int .i64 (chanceQ (aheadV a b k) a b k)], .bool (allOk a b k)])) := by
  have HC : Hid (∀ w, Calls Try.prog 65 #[.int .i64 a, .int .i64 b, .int .i64 k] w fun e w' => e = .returned (.tuple #[.int .i64 (allV a b k), .bool (allOk a b k)]) ∧ w = w') := Lib.hid fun w => countAll_ret a b k w
  have HN : Hid (∀ w, Calls Try.prog 33 #[.int .i64 a, .int .i64 b, .int .i64 k] w fun e w' => e = .returned (.tuple #[.int .i64 (aheadV a b k), .bool (allOk a b k)]) ∧ w = w') := Lib.hid fun w => countAhead_any a b k w
  rcases Bool.eq_false_or_eq_true (allOk a b k) with hp | hp
  · have hA := allOk_of hp
    have hc := cntV_bd a b
    have hc0 := cntV_pos hA
    have hn := aheadN_bd hc hA
    rw [allV_yes hp, hp] at HC
    rw [chanceP_yes hp, chanceQ_yes hp, hp]
    rw [aheadV_yes hp, hp] at HN
    rw [aheadV_yes hp]
    obtain ⟨p, hpe⟩ := Int.eq_ofNat_of_zero_le hn.1
    obtain ⟨q, hqe⟩ := Int.eq_ofNat_of_zero_le hc.1
    rw [hpe] at HN hn ⊢
    rw [hqe] at HC hc hc0 ⊢
    rw [Int.toNat_natCast, Int.toNat_natCast]
    have hpb : p ≤ 70368744177664 := by omega
    have hqb : 0 < q ∧ q ≤ 70368744177664 := by omega
    have HL : Hid (∀ w, Calls Try.prog 69 #[.int .i64 p, .int .i64 q] w (Ret w (.agg #[.int .i64 (numR p q), .int .i64 (denR p q)]))) := Lib.hid fun w => lowest_any p q w hpb hqb
    generalize numR p q = x at *
    generalize denR p q = y at *
    clear hpe hqe hA hp
    go_enter Try.func37, Try.ntmps37
    go_wp2_with (first | (go_at_call 65; refine (HC.out _).mono ?_; rintro e w' ⟨rfl, rfl⟩) | (go_at_call 33; refine (HN.out _).mono ?_; rintro e w' ⟨rfl, rfl⟩) | (go_at_call 69; refine (HL.out _).mono ?_; rintro e w1 ⟨rfl, hb⟩; obtain ⟨hcc, hff⟩ := bcell hb; have hz : w.heap.size < w1.heap.size := by have := hb.size; simp at this; omega))
    refine bodyPost_ret (v := .tuple #[.agg #[.int .i64 x, .int .i64 y], .bool true]) (by simp [results, Try.results37, go_sem, hcc, hff, hz]) rfl ⟨rfl, ?_⟩
    exact ((below_two hb).setCell (Nat.le_refl _) _).setCell (Nat.le_refl _) _
  · rw [allV_no hp, hp] at HC
    rw [chanceP_no hp, chanceQ_no hp, hp]
    go_enter Try.func37, Try.ntmps37
    go_wp2_with (go_at_call 65; refine (HC.out _).mono ?_; rintro e w' ⟨rfl, rfl⟩)
    exact bodyPost_ret (v := .tuple #[.agg #[.int .i64 0, .int .i64 0], .bool false]) (by simp [results, Try.results37, go_sem]) rfl ⟨rfl, (Below.refl _ _).alloc (Nat.le_refl _) _⟩
set_option maxHeartbeats 1000000 in
theorem specChanceAhead_ret (a b k : Int) (w : World) : Calls Try.prog 36 #[.int .i64 a, .int .i64 b, .int .i64 k] w (Ret w (.tuple #[.agg #[.int .i64 (chanceP (aheadV a b k) a b k), .int .i64 (chanceQ (aheadV a b k) a b k)], .bool (allOk a b k)])) := by
  rcases Bool.eq_false_or_eq_true (allOk a b k) with hp | hp
  · have hA := allOk_of hp
    have hc := cntV_bd a b
    have hc0 := cntV_pos hA
    have hn := aheadN_bd hc hA
    have HN : Hid (∀ w, Calls Try.prog 64 #[.int .i64 a, .int .i64 b, .int .i64 k] w (Ret w (.int .i64 (aheadN (cntV a b) a b k)))) := Lib.hid fun w => baAhead_ret a b k w hA
    have HC : Hid (∀ w, Calls Try.prog 68 #[.int .i64 (a + b), .int .i64 a] w (Ret w (.int .i64 (cntV a b)))) := Lib.hid fun w => by rw [cntV_chZ hA]; exact choose_ret _ _ w (by have := hA.ab; omega)
    have h1 := hA.a0
    have h2 := hA.b0
    have h3 := hA.ab
    rw [chanceP_yes hp, chanceQ_yes hp, hp]
    rw [aheadV_yes hp]
    obtain ⟨p, hpe⟩ := Int.eq_ofNat_of_zero_le hn.1
    obtain ⟨q, hqe⟩ := Int.eq_ofNat_of_zero_le hc.1
    rw [hpe] at HN hn ⊢
    rw [hqe] at HC hc hc0 ⊢
    rw [Int.toNat_natCast, Int.toNat_natCast]
    have hpb : p ≤ 70368744177664 := by omega
    have hqb : 0 < q ∧ q ≤ 70368744177664 := by omega
    have HL : Hid (∀ w, Calls Try.prog 67 #[.int .i64 p, .int .i64 q] w (Ret w (.agg #[.int .i64 (numR p q), .int .i64 (denR p q)]))) := Lib.hid fun w => ruRatio_any p q w hpb hqb
    generalize numR p q = x at *
    generalize denR p q = y at *
    clear hpe hqe hA
    go_enter Try.func36, Try.ntmps36
    go_wp2_with (first | (go_at_call 63; refine (numbers_any a b k _).mono ?_; rintro e w' ⟨rfl, rfl⟩; rw [hp]) | (go_at_call 64; refine (HN.out _).mono ?_; rintro e w1 ⟨rfl, hb1⟩) | (go_at_call 68; refine (HC.out _).mono ?_; rintro e w2 ⟨rfl, hb2⟩) | (go_at_call 67; refine (HL.out _).mono ?_; rintro e w3 ⟨rfl, hb3⟩; have hb := hb1.trans ((hb2.mono hb1.size).trans (hb3.mono (Nat.le_trans hb1.size hb2.size))); obtain ⟨hcc, hff⟩ := bcell hb; have hz : w.heap.size < w3.heap.size := by have := hb.size; simp at this; omega))
    refine bodyPost_ret (v := .tuple #[.agg #[.int .i64 x, .int .i64 y], .bool true]) (by simp [results, Try.results36, go_sem, hcc, hff, hz]) rfl ⟨rfl, ?_⟩
    exact ((below_two hb).setCell (Nat.le_refl _) _).setCell (Nat.le_refl _) _
  · rw [chanceP_no hp, chanceQ_no hp, hp]
    go_enter Try.func36, Try.ntmps36
    go_wp2_with (go_at_call 63; refine (numbers_any a b k _).mono ?_; rintro e w' ⟨rfl, rfl⟩; rw [hp])
    exact bodyPost_ret (v := .tuple #[.agg #[.int .i64 0, .int .i64 0], .bool false]) (by simp [results, Try.results36, go_sem]) rfl ⟨rfl, (Below.refl _ _).alloc (Nat.le_refl _) _⟩

set_option maxHeartbeats 1000000 in
theorem chanceNeverBehind_ret (a b k : Int) (w : World) : Calls Try.prog 40 #[.int .i64 a, .int .i64 b, .int .i64 k] w (Ret w (.tuple #[.agg #[.int .i64 (chanceP (neverV a b k) a b k), .int .i64 (chanceQ (neverV a b k) a b k)], .bool (allOk a b k)])) := by
  have HC : Hid (∀ w, Calls Try.prog 65 #[.int .i64 a, .int .i64 b, .int .i64 k] w fun e w' => e = .returned (.tuple #[.int .i64 (allV a b k), .bool (allOk a b k)]) ∧ w = w') := Lib.hid fun w => countAll_ret a b k w
  have HN : Hid (∀ w, Calls Try.prog 35 #[.int .i64 a, .int .i64 b, .int .i64 k] w fun e w' => e = .returned (.tuple #[.int .i64 (neverV a b k), .bool (allOk a b k)]) ∧ w = w') := Lib.hid fun w => countNever_any a b k w
  rcases Bool.eq_false_or_eq_true (allOk a b k) with hp | hp
  · have hA := allOk_of hp
    have hc := cntV_bd a b
    have hc0 := cntV_pos hA
    have hn := neverN_bd hc hA
    rw [allV_yes hp, hp] at HC
    rw [chanceP_yes hp, chanceQ_yes hp, hp]
    rw [neverV_yes hp, hp] at HN
    rw [neverV_yes hp]
    obtain ⟨p, hpe⟩ := Int.eq_ofNat_of_zero_le hn.1
    obtain ⟨q, hqe⟩ := Int.eq_ofNat_of_zero_le hc.1
    rw [hpe] at HN hn ⊢
    rw [hqe] at HC hc hc0 ⊢
    rw [Int.toNat_natCast, Int.toNat_natCast]
    have hpb : p ≤ 70368744177664 := by omega
    have hqb : 0 < q ∧ q ≤ 70368744177664 := by omega
    have HL : Hid (∀ w, Calls Try.prog 69 #[.int .i64 p, .int .i64 q] w (Ret w (.agg #[.int .i64 (numR p q), .int .i64 (denR p q)]))) := Lib.hid fun w => lowest_any p q w hpb hqb
    generalize numR p q = x at *
    generalize denR p q = y at *
    clear hpe hqe hA hp
    go_enter Try.func40, Try.ntmps40
    go_wp2_with (first | (go_at_call 65; refine (HC.out _).mono ?_; rintro e w' ⟨rfl, rfl⟩) | (go_at_call 35; refine (HN.out _).mono ?_; rintro e w' ⟨rfl, rfl⟩) | (go_at_call 69; refine (HL.out _).mono ?_; rintro e w1 ⟨rfl, hb⟩; obtain ⟨hcc, hff⟩ := bcell hb; have hz : w.heap.size < w1.heap.size := by have := hb.size; simp at this; omega))
    refine bodyPost_ret (v := .tuple #[.agg #[.int .i64 x, .int .i64 y], .bool true]) (by simp [results, Try.results40, go_sem, hcc, hff, hz]) rfl ⟨rfl, ?_⟩
    exact ((below_two hb).setCell (Nat.le_refl _) _).setCell (Nat.le_refl _) _
  · rw [allV_no hp, hp] at HC
    rw [chanceP_no hp, chanceQ_no hp, hp]
    go_enter Try.func40, Try.ntmps40
    go_wp2_with (go_at_call 65; refine (HC.out _).mono ?_; rintro e w' ⟨rfl, rfl⟩)
    exact bodyPost_ret (v := .tuple #[.agg #[.int .i64 0, .int .i64 0], .bool false]) (by simp [results, Try.results40, go_sem]) rfl ⟨rfl, (Below.refl _ _).alloc (Nat.le_refl _) _⟩
set_option maxHeartbeats 1000000 in
theorem specChanceNeverBehind_ret (a b k : Int) (w : World) : Calls Try.prog 39 #[.int .i64 a, .int .i64 b, .int .i64 k] w (Ret w (.tuple #[.agg #[.int .i64 (chanceP (neverV a b k) a b k), .int .i64 (chanceQ (neverV a b k) a b k)], .bool (allOk a b k)])) := by
  rcases Bool.eq_false_or_eq_true (allOk a b k) with hp | hp
  · have hA := allOk_of hp
    have hc := cntV_bd a b
    have hc0 := cntV_pos hA
    have hn := neverN_bd hc hA
    have HN : Hid (∀ w, Calls Try.prog 66 #[.int .i64 a, .int .i64 b, .int .i64 k] w (Ret w (.int .i64 (neverN (cntV a b) a b k)))) := Lib.hid fun w => baNever_ret a b k w hA
    have HC : Hid (∀ w, Calls Try.prog 68 #[.int .i64 (a + b), .int .i64 a] w (Ret w (.int .i64 (cntV a b)))) := Lib.hid fun w => by rw [cntV_chZ hA]; exact choose_ret _ _ w (by have := hA.ab; omega)
    have h1 := hA.a0
    have h2 := hA.b0
    have h3 := hA.ab
    rw [chanceP_yes hp, chanceQ_yes hp, hp]
    rw [neverV_yes hp]
    obtain ⟨p, hpe⟩ := Int.eq_ofNat_of_zero_le hn.1
    obtain ⟨q, hqe⟩ := Int.eq_ofNat_of_zero_le hc.1
    rw [hpe] at HN hn ⊢
    rw [hqe] at HC hc hc0 ⊢
    rw [Int.toNat_natCast, Int.toNat_natCast]
    have hpb : p ≤ 70368744177664 := by omega
    have hqb : 0 < q ∧ q ≤ 70368744177664 := by omega
    have HL : Hid (∀ w, Calls Try.prog 67 #[.int .i64 p, .int .i64 q] w (Ret w (.agg #[.int .i64 (numR p q), .int .i64 (denR p q)]))) := Lib.hid fun w => ruRatio_any p q w hpb hqb
    generalize numR p q = x at *
    generalize denR p q = y at *
    clear hpe hqe hA
    go_enter Try.func39, Try.ntmps39
    go_wp2_with (first | (go_at_call 63; refine (numbers_any a b k _).mono ?_; rintro e w' ⟨rfl, rfl⟩; rw [hp]) | (go_at_call 66; refine (HN.out _).mono ?_; rintro e w1 ⟨rfl, hb1⟩) | (go_at_call 68; refine (HC.out _).mono ?_; rintro e w2 ⟨rfl, hb2⟩) | (go_at_call 67; refine (HL.out _).mono ?_; rintro e w3 ⟨rfl, hb3⟩; have hb := hb1.trans ((hb2.mono hb1.size).trans (hb3.mono (Nat.le_trans hb1.size hb2.size))); obtain ⟨hcc, hff⟩ := bcell hb; have hz : w.heap.size < w3.heap.size := by have := hb.size; simp at this; omega))
    refine bodyPost_ret (v := .tuple #[.agg #[.int .i64 x, .int .i64 y], .bool true]) (by simp [results, Try.results39, go_sem, hcc, hff, hz]) rfl ⟨rfl, ?_⟩
    exact ((below_two hb).setCell (Nat.le_refl _) _).setCell (Nat.le_refl _) _
  · rw [chanceP_no hp, chanceQ_no hp, hp]
    go_enter Try.func39, Try.ntmps39
    go_wp2_with (go_at_call 63; refine (numbers_any a b k _).mono ?_; rintro e w' ⟨rfl, rfl⟩; rw [hp])
    exact bodyPost_ret (v := .tuple #[.agg #[.int .i64 0, .int .i64 0], .bool false]) (by simp [results, Try.results39, go_sem]) rfl ⟨rfl, (Below.refl _ _).alloc (Nat.le_refl _) _⟩
end Go.Proofs.Ytcnggafbdjhagaa
