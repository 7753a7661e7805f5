/- Pack 26 of what FnFansAndCubes needs: LowI, PlayI, FcI. -/
import Derived.Test.YtmfcknlpbliehabKFnFansAndCubes25
/- The program's lowestTerms (any numerator of at least 0), rest, isLowest, power, sumOf of ints. -/
namespace Go.Proofs.Ytmfcknlpbliehab
open Go.RowKit
set_option linter.unusedVariables false
theorem div_bdZ (p x : Nat) (h : p ≤ 9000000000000000000) : 0 ≤ (p : Int) / (x : Int) ∧ (p : Int) / (x : Int) ≤ 9000000000000000000 := by
  rw [cast_div]
  have := Nat.div_le_self p x
  generalize p / x = z at *
  omega
theorem numZ_nat (p q : Nat) : numZ (p : Int) (q : Int) = ((p / Nat.gcd p q : Nat) : Int) := by
  unfold numZ
  rw [Int.natAbs_natCast, Int.natAbs_natCast, Int.tdiv_eq_ediv_of_nonneg (by omega)]
  exact cast_div _ _
theorem denZ_nat (p q : Nat) : denZ (p : Int) (q : Int) = ((q / Nat.gcd p q : Nat) : Int) := by
  unfold denZ
  rw [Int.natAbs_natCast, Int.natAbs_natCast, Int.tdiv_eq_ediv_of_nonneg (by omega)]
  exact cast_div _ _
set_option maxHeartbeats 1000000 in
theorem lowN_any (p q : Nat) (w : World) (hp : p ≤ 9000000000000000000) (hq : 0 < q ∧ q ≤ 9000000000000000000) :
    Calls Try.prog 51 #[.int .i64 p, .int .i64 q] w (Ret w (.agg #[.int .i64 ((p / Nat.gcd p q : Nat) : Int), .int .i64 ((q / Nat.gcd p q : Nat) : Int)])) := by
  have HG : Hid (Nat.gcd q p = Nat.gcd p q) := Lib.hid (Nat.gcd_comm q p)
  have hgp : 0 < Nat.gcd p q := Nat.gcd_pos_of_pos_right p hq.1
  generalize Nat.gcd p q = g at *
  have hq1 := hq.1
  have hq2 := hq.2
  clear hq
  go_enter Try.func51, Try.ntmps51
  go_wp2
  go_loopw [5, 6] (fun a b wr => ∃ (x y : Nat), a = .int .i64 (x : Int) ∧ b = .int .i64 (y : Int) ∧ 0 < x ∧ x ≤ 9000000000000000000 ∧ y ≤ 9000000000000000000 ∧ Hid (Nat.gcd x y = g) ∧ ∃ n, wr = (w.alloc (.cells #[.int .i64 0, .int .i64 0] 72)).drewN n) (fun _ b _ => (intOf b).toNat)
  case atStart => exact ⟨q, p, rfl, rfl, hq1, hq2, hp, HG, 0, rfl⟩
  case round =>
    obtain ⟨x, y, rfl, rfl, hx, hx2, hy2, HG2, n, rfl⟩ := hrel
    by_cases hy : y = 0
    · subst hy
      have HE := Lib.hid (gcd_end HG2.out)
      have hx1 : 1 ≤ (x : Int) := by omega
      have hd1 := div_bdZ p x hp
      have hd2 := div_bdZ q x hq2
      go_wp2
      go_region
      go_wp2
      refine bodyPost_ret (v := .agg #[.int .i64 ((p : Int) / (x : Int)), .int .i64 ((q : Int) / (x : Int))]) (by simp [results, Try.results51, go_sem]) rfl ⟨?_, ?_⟩
      · rw [HE.out, cast_div, cast_div]
      · exact (((below_drewN ((Below.refl _ _).alloc (Nat.le_refl _) _) _).setCell (Nat.le_refl _) _).setCell (Nat.le_refl _) _)
    · have hb : ((y : Int) == 0) = false := by simpa using hy
      have hyp : 0 < y := by omega
      have hb2 : ((y : Int) != 0) = true := by simpa using hy
      have hy1 : 1 ≤ (y : Int) := by omega
      have HGS := Lib.hid (gcd_step HG2.out)
      have hlt := Nat.mod_lt x (show y > 0 by omega)
      have HM := Lib.hid (cast_mod x y)
      clear hy
      go_wp2
      go_region
      go_wp2
      go_roundw
      case rel => exact ⟨y, x % y, rfl, by rw [HM.out], by omega, hy2, by omega, HGS, n + 1, rfl⟩
      case measure => (show ((x : Int) % (y : Int)).toNat < ((y : Nat) : Int).toNat); rw [HM.out, Int.toNat_natCast, Int.toNat_natCast]; exact hlt
theorem lowZ_any (n q : Int) (w : World) (hn : 0 ≤ n ∧ n ≤ 9000000000000000000) (hq : 0 < q ∧ q ≤ 9000000000000000000) :
    Calls Try.prog 51 #[.int .i64 n, .int .i64 q] w (Ret w (.agg #[.int .i64 (numZ n q), .int .i64 (denZ n q)])) := by
  obtain ⟨p, rfl⟩ := Int.eq_ofNat_of_zero_le hn.1
  obtain ⟨r, rfl⟩ := Int.eq_ofNat_of_zero_le (show 0 ≤ q by omega)
  rw [numZ_nat, denZ_nat]
  exact lowN_any p r w (by omega) (by omega)
/-- the sum of the first k -/
def sumK (xs : List Int) (k : Nat) : Int := sumTo (fun j => xs.getD j 0) k
/-- isWithin of one number, in the world that its slice has made -/
theorem within_one (lo hi x : Int) (w : World) : Calls Try.prog 50 #[.int .i64 lo, .int .i64 hi, .slice (some ⟨w.heap.size, 0, none⟩) 1 1] (w.alloc (.cells #[.int .i64 x] 3)) fun e w' => e = .returned (.bool (inBd lo hi x)) ∧ w.alloc (.cells #[.int .i64 x] 3) = w' := by
  have h := within_any _ [x] lo hi _ (one_ints w x) (by simp)
  rwa [show allB [x] lo hi = inBd lo hi x by simp [allB]] at h
theorem within_two (lo hi x y : Int) (w : World) : Calls Try.prog 50 #[.int .i64 lo, .int .i64 hi, .slice (some ⟨w.heap.size, 0, none⟩) 2 2] (w.alloc (.cells #[.int .i64 x, .int .i64 y] 3)) fun e w' => e = .returned (.bool (inBd lo hi x && inBd lo hi y)) ∧ w.alloc (.cells #[.int .i64 x, .int .i64 y] 3) = w' := by
  have h := within_any _ [x, y] lo hi _ (two_ints w x y) (by simp)
  rwa [show allB [x, y] lo hi = (inBd lo hi x && inBd lo hi y) by simp [allB]] at h
end Go.Proofs.Ytmfcknlpbliehab

/- The program's IsChance, isPlay, isWithinPlay. -/
namespace Go.Proofs.Ytmfcknlpbliehab
open Go.RowKit
set_option linter.unusedVariables false
theorem within_lit (lo hi x : Int) (X : World) : Calls Try.prog 50 #[.int .i64 lo, .int .i64 hi, .slice (some ⟨X.heap.size, 0, none⟩) 1 1] (X.alloc (.cells #[.int .i64 x] 3)) fun e w' => e = .returned (.bool (inBd lo hi x)) ∧ Below X.heap.size X w' :=
  (within_one lo hi x X).mono fun e w' ⟨h1, h2⟩ => ⟨h1, h2 ▸ (Below.refl _ _).alloc (Nat.le_refl _) _⟩
theorem within_lit2 (lo hi x y : Int) (X : World) : Calls Try.prog 50 #[.int .i64 lo, .int .i64 hi, .slice (some ⟨X.heap.size, 0, none⟩) 2 2] (X.alloc (.cells #[.int .i64 x, .int .i64 y] 3)) fun e w' => e = .returned (.bool (inBd lo hi x && inBd lo hi y)) ∧ Below X.heap.size X w' :=
  (within_two lo hi x y X).mono fun e w' ⟨h1, h2⟩ => ⟨h1, h2 ▸ (Below.refl _ _).alloc (Nat.le_refl _) _⟩
theorem ruB_alt (n d : Int) : (inBd 1 6 d && (inBd 1 (d - 1) n && (numZ n d == n && denZ n d == d))) = ruB n d := by
  unfold ruB
  by_cases h : d = 1
  · have e1 : inBd 1 (d - 1) n = false := by unfold inBd; rw [Bool.and_eq_false_iff, decide_eq_false_iff_not, decide_eq_false_iff_not]; omega
    rw [e1, Bool.false_and, Bool.and_false, Bool.and_false, Bool.false_and]
  · have e1 : inBd 1 6 d = inBd 2 6 d := by
      unfold inBd
      rw [Bool.eq_iff_iff]
      simp only [Bool.and_eq_true, decide_eq_true_eq]
      omega
    rw [e1, Bool.and_assoc]
end Go.Proofs.Ytmfcknlpbliehab

/- The program's CountFans, CountCubes. -/
namespace Go.Proofs.Ytmfcknlpbliehab
open Go.RowKit
set_option linter.unusedVariables false
theorem PZ.startR (w : World) (a b : Nat) : PZ w a b (w.alloc (.cells #[.int .i64 (a : Int), .int .i64 (b : Int)] 72)) :=
  ⟨by simp [go_sem], by simp [go_sem], by simp [go_sem], by simp [go_sem], by simp, (Below.refl _ _).alloc (Nat.le_refl _) _⟩
theorem ogI_sm {k j c i : Nat} {r : Nat × Nat} (h : ogI k j c i r = true) : smR r = true := by
  cases c with
  | zero => exact h
  | succ c => exact (Bool.and_eq_true _ _ ▸ h).1
theorem ogI_step {k j c i : Nat} {r : Nat × Nat} (h : ogI k j (c + 1) i r = true) : ogI k j c (i + 1) (tml r (i + j + 2 * k) (i + j)) = true := (Bool.and_eq_true _ _ ▸ h).2
theorem ogJ_step {k c j : Nat} {r : Nat × Nat} (h : ogJ k (c + 1) j r = true) : ogI k j j 1 r = true ∧ ogJ k c (j + 1) (gnI k j j 1 r) = true := Bool.and_eq_true _ _ ▸ h
theorem odK_sm {i j c k : Nat} {r : Nat × Nat} (h : odK i j c k r = true) : smR r = true := by
  cases c with
  | zero => exact h
  | succ c => exact (Bool.and_eq_true _ _ ▸ h).1
theorem odK_step {i j c k : Nat} {r : Nat × Nat} (h : odK i j (c + 1) k r = true) : odK i j c (k + 1) (tml r (i + j + k - 1) (i + j + k - 2)) = true := (Bool.and_eq_true _ _ ▸ h).2
theorem odJ_step {i c q j : Nat} {r : Nat × Nat} (h : odJ i c (q + 1) j r = true) : odK i j c 1 r = true ∧ odJ i c q (j + 1) (dbK i j c 1 r) = true := Bool.and_eq_true _ _ ▸ h
theorem odI_step {b c q i : Nat} {r : Nat × Nat} (h : odI b c (q + 1) i r = true) : odJ i c b 1 r = true ∧ odI b c q (i + 1) (dbJ i c b 1 r) = true := Bool.and_eq_true _ _ ▸ h
/-- one fraction more -/
theorem tml_any (a b p q : Nat) (w : World) (ha : 1 ≤ a ∧ a ≤ 100000000000) (hb : 1 ≤ b ∧ b ≤ 100000000000) (hp : 1 ≤ p ∧ p ≤ 100) (hq : 1 ≤ q ∧ q ≤ 100) :
    Calls Try.prog 51 #[.int .i64 ((a : Int) * (p : Int)), .int .i64 ((b : Int) * (q : Int))] w (Ret w (.agg #[.int .i64 (((tml (a, b) p q).1 : Nat) : Int), .int .i64 (((tml (a, b) p q).2 : Nat) : Int)])) := by
  have h1 : a * p ≤ 100000000000 * 100 := Nat.mul_le_mul ha.2 hp.2
  have h2 : b * q ≤ 100000000000 * 100 := Nat.mul_le_mul hb.2 hq.2
  have h3 : 0 < b * q := Nat.mul_pos hb.1 hq.1
  have := lowN_any (a * p) (b * q) w (by omega) ⟨h3, by omega⟩
  rw [Int.natCast_mul, Int.natCast_mul] at this
  exact this
theorem prod_bd {a p : Nat} (ha : a ≤ 100000000000) (hp : p ≤ 100) : 0 ≤ (a : Int) * (p : Int) ∧ (a : Int) * (p : Int) ≤ 10000000000000 := by
  have h1 : a * p ≤ 100000000000 * 100 := Nat.mul_le_mul ha hp
  rw [← Int.natCast_mul]
  omega
theorem within_three' (lo hi x y z : Int) (X : World) : Calls Try.prog 50 #[.int .i64 lo, .int .i64 hi, .slice (some ⟨X.heap.size, 0, none⟩) 3 3] (X.alloc (.cells #[.int .i64 x, .int .i64 y, .int .i64 z] 3)) fun e w' => e = .returned (.bool (inBd lo hi x && (inBd lo hi y && inBd lo hi z))) ∧ Below X.heap.size X w' := by
  have hr : RInts (X.alloc (.cells #[.int .i64 x, .int .i64 y, .int .i64 z] 3)) (.slice (some ⟨X.heap.size, 0, none⟩) 3 3) [x, y, z] :=
    RInts.of_row (B := X.heap.size) (IRow.of_own (World.ownsRow_lit X #[.int .i64 x, .int .i64 y, .int .i64 z] 3 (Nat.le_refl _) (by simp [maxLen]) rfl) (by simp) (by simp))
  have h := within_any _ [x, y, z] lo hi _ hr (by simp)
  rw [show allB [x, y, z] lo hi = (inBd lo hi x && (inBd lo hi y && inBd lo hi z)) by simp [allB]] at h
  exact h.mono fun e w' ⟨h1, h2⟩ => ⟨h1, h2 ▸ (Below.refl _ _).alloc (Nat.le_refl _) _⟩
set_option maxRecDepth 100000 in
set_option maxHeartbeats 4000000 in
theorem countFansI_ret (n k : Int) (w : World) : Calls Try.prog 25 #[.int .i64 n, .int .i64 k] w (Ret w (.tuple #[.int .i64 (fanV n k), .bool (fanOk n k)])) := by
  have H1 : Hid (∀ (X : World) (g : Nat), g = X.heap.size → Calls Try.prog 50 #[.int .i64 0, .int .i64 8, .slice (some ⟨g, 0, none⟩) 1 1] (X.alloc (.cells #[.int .i64 n] 3)) fun e w' => e = .returned (.bool (inBd 0 8 n)) ∧ Below X.heap.size X w') := Lib.hid fun X g hg => by subst hg; exact within_lit 0 8 n X
  have H2 : Hid (∀ (X : World) (g : Nat), g = X.heap.size → Calls Try.prog 50 #[.int .i64 0, .int .i64 4, .slice (some ⟨g, 0, none⟩) 1 1] (X.alloc (.cells #[.int .i64 k] 3)) fun e w' => e = .returned (.bool (inBd 0 4 k)) ∧ Below X.heap.size X w') := Lib.hid fun X g hg => by subst hg; exact within_lit 0 4 k X
  rcases Bool.eq_false_or_eq_true (inBd 0 8 n) with a1 | a1
  case inr =>
    have hok : fanOk n k = false := by unfold fanOk; rw [a1]; rfl
    have e1 : fanV n k = 0 := by unfold fanV; rw [hok]; rfl
    rw [hok, e1]
    rw [a1] at H1
    clear hok e1 a1
    go_enter Try.func25, Try.ntmps25
    go_wp2_with fail
    refine (H1.out _ _ rfl).mono ?_
    rintro e w1 ⟨rfl, hb1⟩
    go_wp2_with fail
    go_ret2
    exact ⟨rfl, hb1⟩
  have hn : 0 ≤ n ∧ n ≤ 8 := by unfold inBd at a1; simpa only [Bool.and_eq_true, decide_eq_true_eq] using a1
  rcases Bool.eq_false_or_eq_true (inBd 0 4 k) with a2 | a2
  case inr =>
    have hok : fanOk n k = false := by unfold fanOk; rw [a1, a2]; rfl
    have e1 : fanV n k = 0 := by unfold fanV; rw [hok]; rfl
    rw [hok, e1]
    rw [a1] at H1
    rw [a2] at H2
    clear hok e1 a1 a2
    go_enter Try.func25, Try.ntmps25
    go_wp2_with fail
    refine (H1.out _ _ rfl).mono ?_
    rintro e w1 ⟨rfl, hb1⟩
    go_wp2_with fail
    refine (H2.out _ _ rfl).mono ?_
    rintro e w2 ⟨rfl, hb2⟩
    go_wp2_with fail
    go_ret2
    exact ⟨rfl, hb1.trans (hb2.mono hb1.size)⟩
  have hk : 0 ≤ k ∧ k ≤ 4 := by unfold inBd at a2; simpa only [Bool.and_eq_true, decide_eq_true_eq] using a2
  have hok : fanOk n k = true := by unfold fanOk; rw [a1, a2]; rfl
  have e1 : fanV n k = ((fanN n.toNat k.toNat : Nat) : Int) := by unfold fanV; rw [if_pos hok]
  rw [hok, e1]
  rw [a1] at H1
  rw [a2] at H2
  clear hok e1 a1 a2
  obtain ⟨N, rfl⟩ := Int.eq_ofNat_of_zero_le hn.1
  obtain ⟨K, rfl⟩ := Int.eq_ofNat_of_zero_le hk.1
  simp only [Int.toNat_natCast]
  have hN : N ≤ 8 := by omega
  have hK : K ≤ 4 := by omega
  clear hn hk
  have HOK := Lib.hid (fan2_at hN hK).1
  obtain ⟨R, hR⟩ : ∃ R, gnJ K (N - 1) 1 (1, 1) = R := ⟨_, rfl⟩
  rw [show fanN N K = R.1 by rw [← hR]; exact (fan2_at hN hK).2.symm]
  have HR := Lib.hid hR
  clear hR
  go_enter Try.func25, Try.ntmps25
  go_wp2_with fail
  refine (H1.out _ _ rfl).mono ?_
  rintro e w1 ⟨rfl, hb1⟩
  go_wp2_with fail
  refine (H2.out _ _ rfl).mono ?_
  rintro e w2 ⟨rfl, hb2⟩
  have HB := Lib.hid (hb1.trans (hb2.mono hb1.size))
  have HZ := Lib.hid (PZ.startR w2 1 1)
  have c2 := HZ.out.f0
  have c3 := HZ.out.f1
  clear hb1 hb2 H1 H2
  go_wp2_with fail
  clear c2 c3
  go_loopw [7] (fun i wr => ∃ (J c : Nat) (r : Nat × Nat), i = .int .i64 (J : Int) ∧ 1 ≤ J ∧ c = N - J ∧ gnJ K c J r = R ∧ ogJ K c J r = true ∧ PZ w2 r.1 r.2 wr) (fun i _ => N - (intOf i).toNat)
  case atStart => exact ⟨1, N - 1, (1, 1), rfl, Nat.le_refl _, rfl, HR.out, HOK.out, HZ.out⟩
  case round =>
    obtain ⟨J, c, r, rfl, hJ, hc, hfn, hok, hz⟩ := hrel
    clear HZ
    by_cases hlt : J < N
    · obtain ⟨c', rfl⟩ : ∃ c', c = c' + 1 := ⟨c - 1, by omega⟩
      have i1 : (J : Int) < (N : Int) := by omega
      have HK1 := Lib.hid (ogJ_step hok).1
      have HK2 := Lib.hid (ogJ_step hok).2
      have hfn2 : gnJ K c' (J + 1) (gnI K J J 1 r) = R := hfn
      have HFN := Lib.hid hfn2
      have HZ := Lib.hid hz
      have hc' : c' = N - (J + 1) := by omega
      clear hok hfn hfn2 hz hc
      go_wp2_with fail
      go_loopw [8] (fun j wq => ∃ (I d : Nat) (s : Nat × Nat), j = .int .i64 (I : Int) ∧ 1 ≤ I ∧ I ≤ J + 1 ∧ d = J + 1 - I ∧ gnI K J d I s = gnI K J J 1 r ∧ ogI K J d I s = true ∧ PZ w2 s.1 s.2 wq) (fun j _ => J + 1 - (intOf j).toNat)
      case atStart => exact ⟨1, J, r, rfl, Nat.le_refl _, by omega, by omega, rfl, HK1.out, HZ.out⟩
      case round =>
        obtain ⟨I, d, q, rfl, hI, hIJ, hd, hfj, hoj, hz⟩ := hrel
        clear HZ
        by_cases hlj : I ≤ J
        · obtain ⟨d', rfl⟩ : ∃ d', d = d' + 1 := ⟨d - 1, by omega⟩
          have i2 : (I : Int) ≤ (J : Int) := by omega
          obtain ⟨a, b⟩ := q
          have hsm := smR_of (ogI_sm hoj)
          have HOJ := Lib.hid (ogI_step hoj)
          have HT : Hid (∀ w, Calls Try.prog 51 #[.int .i64 ((a : Int) * ((I : Int) + (J : Int) + 2 * (K : Int))), .int .i64 ((b : Int) * ((I : Int) + (J : Int)))] w (Ret w (.agg #[.int .i64 (((tml (a, b) (I + J + 2 * K) (I + J)).1 : Nat) : Int), .int .i64 (((tml (a, b) (I + J + 2 * K) (I + J)).2 : Nat) : Int)]))) := Lib.hid fun w => by
            rw [show (I : Int) + (J : Int) + 2 * (K : Int) = ((I + J + 2 * K : Nat) : Int) by omega, show (I : Int) + (J : Int) = ((I + J : Nat) : Int) by omega]
            exact tml_any a b (I + J + 2 * K) (I + J) w hsm.1 hsm.2 (by omega) (by omega)
          have k1 := prod_bd (a := a) (p := I + J + 2 * K) hsm.1.2 (by omega)
          have k2 := prod_bd (a := b) (p := I + J) hsm.2.2 (by omega)
          rw [show ((I + J + 2 * K : Nat) : Int) = (I : Int) + (J : Int) + 2 * (K : Int) by omega] at k1
          rw [show ((I + J : Nat) : Int) = (I : Int) + (J : Int) by omega] at k2
          have k3 := IntWalk.i64_in _ (show -9223372036854775808 ≤ (a : Int) * ((I : Int) + (J : Int) + 2 * (K : Int)) ∧ (a : Int) * ((I : Int) + (J : Int) + 2 * (K : Int)) ≤ 9223372036854775807 by omega)
          have k4 := IntWalk.i64_in _ (show -9223372036854775808 ≤ (b : Int) * ((I : Int) + (J : Int)) ∧ (b : Int) * ((I : Int) + (J : Int)) ≤ 9223372036854775807 by omega)
          have hfj2 : gnI K J d' (I + 1) (tml (a, b) (I + J + 2 * K) (I + J)) = gnI K J J 1 r := hfj
          have HFJ := Lib.hid hfj2
          have hd' : d' = J + 1 - (I + 1) := by omega
          generalize tml (a, b) (I + J + 2 * K) (I + J) = u at *
          obtain ⟨x, y⟩ := u
          have HZ := Lib.hid hz
          have c0 := HZ.out.r0
          have c1 := HZ.out.r1
          clear hsm hoj hfj hfj2 hz hd k1 k2
          go_wp2_with (go_at_call 51; refine (HT.out _).mono ?_; rintro e wt ⟨rfl, hbt⟩; have hz2 := HZ.out.kept hbt; clear c0 c1; have c0 := hz2.r0; have c1 := hz2.r1; have c2 := hz2.f0; have c3 := hz2.f1; have HZ2 := Lib.hid (hz2.put x y); clear hz2)
          go_roundw
          case rel => exact ⟨I + 1, d', (x, y), by go_num, by omega, by omega, hd', HFJ.out, HOJ.out, HZ2.out⟩
          case measure => first | (simp [intOf]; done) | (simp [intOf]; omega)
        · obtain rfl : I = J + 1 := by omega
          obtain rfl : d = 0 := by omega
          have hq : q = gnI K J J 1 r := hfj
          subst hq
          have HZ := Lib.hid hz
          have i3 : ¬ (J : Int) + 1 ≤ (J : Int) := by omega
          clear hz hfj hoj hd
          go_wp2_with fail
          go_roundw
          case rel => exact ⟨J + 1, c', gnI K J J 1 r, by go_num, by omega, hc', HFN.out, HK2.out, HZ.out⟩
          case measure => first | (simp [intOf]; done) | (simp [intOf]; omega)
    · obtain rfl : c = 0 := by omega
      have i1 : ¬ (J : Int) < (N : Int) := by omega
      have hr : r = R := hfn
      subst hr
      have c0 := hz.r0
      have HZ := Lib.hid (HB.out.trans (hz.below.mono HB.out.size))
      clear hz hfn hok hc
      go_wp2_with fail
      go_ret2
      exact ⟨rfl, HZ.out⟩
set_option maxRecDepth 100000 in
set_option maxHeartbeats 4000000 in
theorem countCubesI_ret (a b c : Int) (w : World) : Calls Try.prog 29 #[.int .i64 a, .int .i64 b, .int .i64 c] w (Ret w (.tuple #[.int .i64 (cubV a b c), .bool (cubOk a b c)])) := by
  have H1 : Hid (∀ (X : World) (g : Nat), g = X.heap.size → Calls Try.prog 50 #[.int .i64 0, .int .i64 4, .slice (some ⟨g, 0, none⟩) 3 3] (X.alloc (.cells #[.int .i64 a, .int .i64 b, .int .i64 c] 3)) fun e w' => e = .returned (.bool (cubOk a b c)) ∧ Below X.heap.size X w') := Lib.hid fun X g hg => by subst hg; exact within_three' 0 4 a b c X
  rcases Bool.eq_false_or_eq_true (cubOk a b c) with hok | hok
  case inr =>
    have e1 : cubV a b c = 0 := by unfold cubV; rw [hok]; rfl
    rw [hok, e1]
    rw [hok] at H1
    clear hok e1
    go_enter Try.func29, Try.ntmps29
    go_wp2_with fail
    refine (H1.out _ _ rfl).mono ?_
    rintro e w1 ⟨rfl, hb1⟩
    go_wp2_with fail
    go_ret2
    exact ⟨rfl, hb1⟩
  have ha : (0 ≤ a ∧ a ≤ 4) ∧ (0 ≤ b ∧ b ≤ 4) ∧ 0 ≤ c ∧ c ≤ 4 := by
    have h := hok
    unfold cubOk inBd at h
    simpa only [Bool.and_eq_true, decide_eq_true_eq] using h
  obtain ⟨ha, hb, hc⟩ := ha
  have e1 : cubV a b c = ((cubeN a.toNat b.toNat c.toNat : Nat) : Int) := by unfold cubV; rw [if_pos hok]
  rw [hok, e1]
  rw [hok] at H1
  clear hok e1
  obtain ⟨A, rfl⟩ := Int.eq_ofNat_of_zero_le ha.1
  obtain ⟨B, rfl⟩ := Int.eq_ofNat_of_zero_le hb.1
  obtain ⟨C, rfl⟩ := Int.eq_ofNat_of_zero_le hc.1
  simp only [Int.toNat_natCast]
  have hA : A ≤ 4 := by omega
  have hB : B ≤ 4 := by omega
  have hC : C ≤ 4 := by omega
  clear ha hb hc
  have HOK := Lib.hid (cube2_at hA hB hC).1
  obtain ⟨R, hR⟩ : ∃ R, dbI B C A 1 (1, 1) = R := ⟨_, rfl⟩
  rw [show cubeN A B C = R.1 by rw [← hR]; exact (cube2_at hA hB hC).2.symm]
  have HR := Lib.hid hR
  clear hR
  go_enter Try.func29, Try.ntmps29
  go_wp2_with fail
  refine (H1.out _ _ rfl).mono ?_
  rintro e w1 ⟨rfl, hb1⟩
  have HB := Lib.hid hb1
  have HZ := Lib.hid (PZ.startR w1 1 1)
  have c2 := HZ.out.f0
  have c3 := HZ.out.f1
  clear hb1 H1
  go_wp2_with fail
  clear c2 c3
  go_loopw [9] (fun i wr => ∃ (I n : Nat) (r : Nat × Nat), i = .int .i64 (I : Int) ∧ 1 ≤ I ∧ I ≤ A + 1 ∧ n = A + 1 - I ∧ dbI B C n I r = R ∧ odI B C n I r = true ∧ PZ w1 r.1 r.2 wr) (fun i _ => A + 1 - (intOf i).toNat)
  case atStart => exact ⟨1, A, (1, 1), rfl, Nat.le_refl _, by omega, by omega, HR.out, HOK.out, HZ.out⟩
  case round =>
    obtain ⟨I, n, r, rfl, hI, hIA, hn, hfn, hok, hz⟩ := hrel
    clear HZ
    by_cases hlt : I ≤ A
    · obtain ⟨n', rfl⟩ : ∃ n', n = n' + 1 := ⟨n - 1, by omega⟩
      have i1 : (I : Int) ≤ (A : Int) := by omega
      have HK1 := Lib.hid (odI_step hok).1
      have HK2 := Lib.hid (odI_step hok).2
      have hfn2 : dbI B C n' (I + 1) (dbJ I C B 1 r) = R := hfn
      have HFN := Lib.hid hfn2
      have HZ := Lib.hid hz
      have hn' : n' = A + 1 - (I + 1) := by omega
      clear hok hfn hfn2 hz hn
      go_wp2_with fail
      go_loopw [10] (fun j wq => ∃ (J d : Nat) (s : Nat × Nat), j = .int .i64 (J : Int) ∧ 1 ≤ J ∧ J ≤ B + 1 ∧ d = B + 1 - J ∧ dbJ I C d J s = dbJ I C B 1 r ∧ odJ I C d J s = true ∧ PZ w1 s.1 s.2 wq) (fun j _ => B + 1 - (intOf j).toNat)
      case atStart => exact ⟨1, B, r, rfl, Nat.le_refl _, by omega, by omega, rfl, HK1.out, HZ.out⟩
      case round =>
        obtain ⟨J, d, q, rfl, hJ, hJB, hd, hfj, hoj, hz⟩ := hrel
        clear HZ
        by_cases hlj : J ≤ B
        · obtain ⟨d', rfl⟩ : ∃ d', d = d' + 1 := ⟨d - 1, by omega⟩
          have i2 : (J : Int) ≤ (B : Int) := by omega
          have HL1 := Lib.hid (odJ_step hoj).1
          have HL2 := Lib.hid (odJ_step hoj).2
          have hfj2 : dbJ I C d' (J + 1) (dbK I J C 1 q) = dbJ I C B 1 r := hfj
          have HFJ := Lib.hid hfj2
          have HZ := Lib.hid hz
          have hd' : d' = B + 1 - (J + 1) := by omega
          clear hoj hfj hfj2 hz hd
          go_wp2_with fail
          go_loopw [11] (fun k wq => ∃ (K m : Nat) (s : Nat × Nat), k = .int .i64 (K : Int) ∧ 1 ≤ K ∧ K ≤ C + 1 ∧ m = C + 1 - K ∧ dbK I J m K s = dbK I J C 1 q ∧ odK I J m K s = true ∧ PZ w1 s.1 s.2 wq) (fun k _ => C + 1 - (intOf k).toNat)
          case atStart => exact ⟨1, C, q, rfl, Nat.le_refl _, by omega, by omega, rfl, HL1.out, HZ.out⟩
          case round =>
            obtain ⟨K, m, p, rfl, hK, hKC, hm, hfk, hko, hz⟩ := hrel
            clear HZ
            by_cases hlk : K ≤ C
            · obtain ⟨m', rfl⟩ : ∃ m', m = m' + 1 := ⟨m - 1, by omega⟩
              have i3 : (K : Int) ≤ (C : Int) := by omega
              obtain ⟨x, y⟩ := p
              have hsm := smR_of (odK_sm hko)
              have HKO := Lib.hid (odK_step hko)
              have HT : Hid (∀ w, Calls Try.prog 51 #[.int .i64 ((x : Int) * ((I : Int) + (J : Int) + (K : Int) - 1)), .int .i64 ((y : Int) * ((I : Int) + (J : Int) + (K : Int) - 2))] w (Ret w (.agg #[.int .i64 (((tml (x, y) (I + J + K - 1) (I + J + K - 2)).1 : Nat) : Int), .int .i64 (((tml (x, y) (I + J + K - 1) (I + J + K - 2)).2 : Nat) : Int)]))) := Lib.hid fun w => by
                rw [show (I : Int) + (J : Int) + (K : Int) - 1 = ((I + J + K - 1 : Nat) : Int) by omega, show (I : Int) + (J : Int) + (K : Int) - 2 = ((I + J + K - 2 : Nat) : Int) by omega]
                exact tml_any x y (I + J + K - 1) (I + J + K - 2) w hsm.1 hsm.2 (by omega) (by omega)
              have k1 := prod_bd (a := x) (p := I + J + K - 1) hsm.1.2 (by omega)
              have k2 := prod_bd (a := y) (p := I + J + K - 2) hsm.2.2 (by omega)
              rw [show ((I + J + K - 1 : Nat) : Int) = (I : Int) + (J : Int) + (K : Int) - 1 by omega] at k1
              rw [show ((I + J + K - 2 : Nat) : Int) = (I : Int) + (J : Int) + (K : Int) - 2 by omega] at k2
              have k3 := IntWalk.i64_in _ (show -9223372036854775808 ≤ (x : Int) * ((I : Int) + (J : Int) + (K : Int) - 1) ∧ (x : Int) * ((I : Int) + (J : Int) + (K : Int) - 1) ≤ 9223372036854775807 by omega)
              have k4 := IntWalk.i64_in _ (show -9223372036854775808 ≤ (y : Int) * ((I : Int) + (J : Int) + (K : Int) - 2) ∧ (y : Int) * ((I : Int) + (J : Int) + (K : Int) - 2) ≤ 9223372036854775807 by omega)
              have hfk2 : dbK I J m' (K + 1) (tml (x, y) (I + J + K - 1) (I + J + K - 2)) = dbK I J C 1 q := hfk
              have HFK := Lib.hid hfk2
              have hm' : m' = C + 1 - (K + 1) := by omega
              generalize tml (x, y) (I + J + K - 1) (I + J + K - 2) = u at *
              obtain ⟨s, t⟩ := u
              have HZ := Lib.hid hz
              have c0 := HZ.out.r0
              have c1 := HZ.out.r1
              clear hsm hko hfk hfk2 hz hm k1 k2
              go_wp2_with (go_at_call 51; refine (HT.out _).mono ?_; rintro e wt ⟨rfl, hbt⟩; have hz2 := HZ.out.kept hbt; clear c0 c1; have c0 := hz2.r0; have c1 := hz2.r1; have c2 := hz2.f0; have c3 := hz2.f1; have HZ2 := Lib.hid (hz2.put s t); clear hz2)
              go_roundw
              case rel => exact ⟨K + 1, m', (s, t), by go_num, by omega, by omega, hm', HFK.out, HKO.out, HZ2.out⟩
              case measure => first | (simp [intOf]; done) | (simp [intOf]; omega)
            · obtain rfl : K = C + 1 := by omega
              obtain rfl : m = 0 := by omega
              have hq : p = dbK I J C 1 q := hfk
              subst hq
              have i3 : ¬ (C : Int) + 1 ≤ (C : Int) := by omega
              have HZ := Lib.hid hz
              clear hz hfk hko hm
              go_wp2_with fail
              go_roundw
              case rel => exact ⟨J + 1, d', dbK I J C 1 q, by go_num, by omega, by omega, hd', HFJ.out, HL2.out, HZ.out⟩
              case measure => first | (simp [intOf]; done) | (simp [intOf]; omega)
        · obtain rfl : J = B + 1 := by omega
          obtain rfl : d = 0 := by omega
          have hq : q = dbJ I C B 1 r := hfj
          subst hq
          have i3 : ¬ (B : Int) + 1 ≤ (B : Int) := by omega
          have HZ := Lib.hid hz
          clear hz hfj hoj hd
          go_wp2_with fail
          go_roundw
          case rel => exact ⟨I + 1, n', dbJ I C B 1 r, by go_num, by omega, by omega, hn', HFN.out, HK2.out, HZ.out⟩
          case measure => first | (simp [intOf]; done) | (simp [intOf]; omega)
    · obtain rfl : I = A + 1 := by omega
      obtain rfl : n = 0 := by omega
      have i1 : ¬ (A : Int) + 1 ≤ (A : Int) := by omega
      have hr : r = R := hfn
      subst hr
      have c0 := hz.r0
      have HZ := Lib.hid (HB.out.trans (hz.below.mono HB.out.size))
      clear hz hfn hok hn
      go_wp2_with fail
      go_ret2
      exact ⟨rfl, HZ.out⟩
end Go.Proofs.Ytmfcknlpbliehab
