/- Pack 15 of what FnRecordsTold needs: LowI, PlayI. -/
import Derived.Test.YtachijliaedndaaKFnRecordsTold14
/- The program's lowestTerms (any numerator of at least 0), rest, isLowest, power, sumOf of ints. -/
namespace Go.Proofs.Ytachijliaedndaa
open Go.RowKit
set_option linter.unusedVariables false
theorem div_bdZ (p x : Nat) (h : p ≤ 9000000000000000000) : 0 ≤ (p : Int) / (x : Int) ∧ (p : Int) / (x : Int) ≤ 9000000000000000000 := by
  rw [cast_div]
  have := Nat.div_le_self p x
  generalize p / x = z at *
  omega
theorem numZ_nat (p q : Nat) : numZ (p : Int) (q : Int) = ((p / Nat.gcd p q : Nat) : Int) := by
  unfold numZ
  rw [Int.natAbs_natCast, Int.natAbs_natCast, Int.tdiv_eq_ediv_of_nonneg (by omega)]
  exact cast_div _ _
theorem denZ_nat (p q : Nat) : denZ (p : Int) (q : Int) = ((q / Nat.gcd p q : Nat) : Int) := by
  unfold denZ
  rw [Int.natAbs_natCast, Int.natAbs_natCast, Int.tdiv_eq_ediv_of_nonneg (by omega)]
  exact cast_div _ _
set_option maxHeartbeats 1000000 in
theorem lowN_any (p q : Nat) (w : World) (hp : p ≤ 9000000000000000000) (hq : 0 < q ∧ q ≤ 9000000000000000000) :
    Calls Try.prog 166 #[.int .i64 p, .int .i64 q] w (Ret w (.agg #[.int .i64 ((p / Nat.gcd p q : Nat) : Int), .int .i64 ((q / Nat.gcd p q : Nat) : Int)])) := by
  have HG : Hid (Nat.gcd q p = Nat.gcd p q) := Lib.hid (Nat.gcd_comm q p)
  have hgp : 0 < Nat.gcd p q := Nat.gcd_pos_of_pos_right p hq.1
  generalize Nat.gcd p q = g at *
  have hq1 := hq.1
  have hq2 := hq.2
  clear hq
  go_enter Try.func166, Try.ntmps166
  go_wp2
  go_loopw [5, 6] (fun a b wr => ∃ (x y : Nat), a = .int .i64 (x : Int) ∧ b = .int .i64 (y : Int) ∧ 0 < x ∧ x ≤ 9000000000000000000 ∧ y ≤ 9000000000000000000 ∧ Hid (Nat.gcd x y = g) ∧ ∃ n, wr = (w.alloc (.cells #[.int .i64 0, .int .i64 0] 42)).drewN n) (fun _ b _ => (intOf b).toNat)
  case atStart => exact ⟨q, p, rfl, rfl, hq1, hq2, hp, HG, 0, rfl⟩
  case round =>
    obtain ⟨x, y, rfl, rfl, hx, hx2, hy2, HG2, n, rfl⟩ := hrel
    by_cases hy : y = 0
    · subst hy
      have HE := Lib.hid (gcd_end HG2.out)
      have hx1 : 1 ≤ (x : Int) := by omega
      have hd1 := div_bdZ p x hp
      have hd2 := div_bdZ q x hq2
      go_wp2
      go_region
      go_wp2
      refine bodyPost_ret (v := .agg #[.int .i64 ((p : Int) / (x : Int)), .int .i64 ((q : Int) / (x : Int))]) (by simp [results, Try.results166, go_sem]) rfl ⟨?_, ?_⟩
      · rw [HE.out, cast_div, cast_div]
      · exact (((below_drewN ((Below.refl _ _).alloc (Nat.le_refl _) _) _).setCell (Nat.le_refl _) _).setCell (Nat.le_refl _) _)
    · have hb : ((y : Int) == 0) = false := by simpa using hy
      have hyp : 0 < y := by omega
      have hb2 : ((y : Int) != 0) = true := by simpa using hy
      have hy1 : 1 ≤ (y : Int) := by omega
      have HGS := Lib.hid (gcd_step HG2.out)
      have hlt := Nat.mod_lt x (show y > 0 by omega)
      have HM := Lib.hid (cast_mod x y)
      clear hy
      go_wp2
      go_region
      go_wp2
      go_roundw
      case rel => exact ⟨y, x % y, rfl, by rw [HM.out], by omega, hy2, by omega, HGS, n + 1, rfl⟩
      case measure => (show ((x : Int) % (y : Int)).toNat < ((y : Nat) : Int).toNat); rw [HM.out, Int.toNat_natCast, Int.toNat_natCast]; exact hlt
theorem lowZ_any (n q : Int) (w : World) (hn : 0 ≤ n ∧ n ≤ 9000000000000000000) (hq : 0 < q ∧ q ≤ 9000000000000000000) :
    Calls Try.prog 166 #[.int .i64 n, .int .i64 q] w (Ret w (.agg #[.int .i64 (numZ n q), .int .i64 (denZ n q)])) := by
  obtain ⟨p, rfl⟩ := Int.eq_ofNat_of_zero_le hn.1
  obtain ⟨r, rfl⟩ := Int.eq_ofNat_of_zero_le (show 0 ≤ q by omega)
  rw [numZ_nat, denZ_nat]
  exact lowN_any p r w (by omega) (by omega)
set_option maxHeartbeats 400000 in
theorem rest_any (n d : Int) (w : World) (h : -9000000000000000000 ≤ d - n ∧ d - n ≤ 9000000000000000000) : Calls Try.prog 170 #[.agg #[.int .i64 n, .int .i64 d]] w (Ret w (.int .i64 (d - n))) := by
  have hbx := RBox.start w n d
  have c0 := hbx.1
  have c1 := hbx.2.1
  have hb0 := hbx.2.2.2
  clear hbx
  go_enter Try.func170, Try.ntmps170
  go_wp2_with fail
  go_ret
  exact ⟨rfl, hb0⟩
set_option maxHeartbeats 800000 in
theorem powerN_any (x : Int) (n : Nat) (w : World) (hx : 0 ≤ x ∧ x ≤ 6) (hn : n ≤ 18) : Calls Try.prog 178 #[.int .i64 x, .int .i64 (n : Int)] w fun e w' => e = .returned (.int .i64 (x ^ n)) ∧ w = w' := by
  go_enter Try.func178, Try.ntmps178
  go_wp2_with fail
  go_loop [5, 7] (fun o m => ∃ k : Nat, k ≤ n ∧ m = .int .i64 (k : Int) ∧ o = .int .i64 (x ^ k)) (fun _ m => n - (intOf m).toNat)
  case atStart => exact ⟨0, Nat.zero_le _, rfl, by rw [Int.pow_zero]⟩
  case round =>
    obtain ⟨k, hk, rfl, rfl⟩ := hrel
    by_cases hlt : k < n
    · have b1 := pow6 hx (k := k) (by omega)
      have b2 := pow6 hx (k := k + 1) (by omega)
      rw [Int.pow_succ] at b2
      have HP : Hid (x ^ (k + 1) = x ^ k * x) := Lib.hid (Int.pow_succ _ _)
      generalize x ^ k = p at *
      have i1 : (k : Int) < (n : Int) := by omega
      go_wp2_with fail
      go_round
      case rel => exact ⟨k + 1, by omega, by go_num, by rw [HP.out]⟩
      case measure => first | (simp [intOf]; done) | (simp [intOf]; omega)
    · obtain rfl : k = n := by omega
      have i1 : ¬ (k : Int) < (k : Int) := by omega
      go_wp2_with fail
      go_ret
      exact ⟨rfl, rfl⟩
theorem power_any (x k : Int) (w : World) (hx : 0 ≤ x ∧ x ≤ 6) (hk : 0 ≤ k ∧ k ≤ 18) : Calls Try.prog 178 #[.int .i64 x, .int .i64 k] w fun e w' => e = .returned (.int .i64 (x ^ k.toNat)) ∧ w = w' := by
  obtain ⟨n, rfl⟩ := Int.eq_ofNat_of_zero_le hk.1
  rw [Int.toNat_natCast]
  exact powerN_any x n w hx (by omega)
/-- the sum of the first k -/
def sumK (xs : List Int) (k : Nat) : Int := sumTo (fun j => xs.getD j 0) k
set_option maxHeartbeats 800000 in
theorem sumInts_any (v : Value) (xs : List Int) (w : World) (h : RInts w v xs) (hl : xs.length ≤ 1048576) (hb : ∀ k, k ≤ xs.length → 0 ≤ sumK xs k ∧ sumK xs k ≤ 9000000000000000000) :
    Calls Try.prog 167 #[v] w fun e w' => e = .returned (.int .i64 (sumK xs xs.length)) ∧ w = w' := by
  obtain ⟨A0, cap, rfl⟩ := h.shape
  have H := Lib.hid h
  have HB := Lib.hid hb
  have HS : Hid (∀ k, sumK xs (k + 1) = sumK xs k + xs.getD k 0) := Lib.hid fun _ => rfl
  clear h hb
  go_enter Try.func167, Try.ntmps167
  go_wp2
  go_loop [3, 8] (fun o i => ∃ k : Nat, k ≤ xs.length ∧ i = .int .i64 (k : Int) ∧ o = .int .i64 (sumK xs k)) (fun _ i => xs.length - (intOf i).toNat)
  case atStart => exact ⟨0, by omega, rfl, rfl⟩
  case round =>
    obtain ⟨k, hk, rfl, rfl⟩ := hrel
    by_cases hlt : k < xs.length
    · obtain ⟨g, o, cc, hv, hg, hcells⟩ := H.out.cells (by omega)
      have hA : A0 = some ⟨g, o, none⟩ := by injection hv
      subst hA
      clear hv
      have e1 := hcells k hlt
      clear hcells
      have b1 := HB.out k (by omega)
      have b2 := HB.out (k + 1) (by omega)
      rw [HS.out] at b2
      have HN := Lib.hid (HS.out k)
      generalize xs.getD k 0 = x at *
      generalize sumK xs k = y at *
      go_wp2
      go_round
      case rel => exact ⟨k + 1, by omega, by go_num, by rw [HN.out]⟩
      case measure => first | (simp [intOf]; done) | (simp [intOf]; omega)
    · obtain rfl : k = xs.length := by omega
      have b1 := HB.out xs.length (by omega)
      go_wp2
      go_ret
      exact ⟨rfl, rfl⟩
/-- isWithin of one number, in the world that its slice has made -/
theorem within_one (lo hi x : Int) (w : World) : Calls Try.prog 174 #[.int .i64 lo, .int .i64 hi, .slice (some ⟨w.heap.size, 0, none⟩) 1 1] (w.alloc (.cells #[.int .i64 x] 3)) fun e w' => e = .returned (.bool (inBd lo hi x)) ∧ w.alloc (.cells #[.int .i64 x] 3) = w' := by
  have h := within_any _ [x] lo hi _ (one_ints w x) (by simp)
  rwa [show allB [x] lo hi = inBd lo hi x by simp [allB]] at h
theorem within_two (lo hi x y : Int) (w : World) : Calls Try.prog 174 #[.int .i64 lo, .int .i64 hi, .slice (some ⟨w.heap.size, 0, none⟩) 2 2] (w.alloc (.cells #[.int .i64 x, .int .i64 y] 3)) fun e w' => e = .returned (.bool (inBd lo hi x && inBd lo hi y)) ∧ w.alloc (.cells #[.int .i64 x, .int .i64 y] 3) = w' := by
  have h := within_any _ [x, y] lo hi _ (two_ints w x y) (by simp)
  rwa [show allB [x, y] lo hi = (inBd lo hi x && inBd lo hi y) by simp [allB]] at h
set_option maxRecDepth 100000 in
set_option maxHeartbeats 2000000 in
theorem isLowest_any (n d : Int) (w : World) (hn : 0 ≤ n ∧ n ≤ 9000000000000000000) (hd : 0 < d ∧ d ≤ 9000000000000000000) : Calls Try.prog 175 #[.agg #[.int .i64 n, .int .i64 d]] w (Ret w (.bool (numZ n d == n && denZ n d == d))) := by
  have hbx := RBox.start w n d
  have c0 := hbx.1
  have c1 := hbx.2.1
  have HB := Lib.hid hbx
  clear hbx
  have HR : Hid (∀ w, Calls Try.prog 166 #[.int .i64 n, .int .i64 d] w (Ret w (.agg #[.int .i64 (numZ n d), .int .i64 (denZ n d)]))) := Lib.hid fun w => lowZ_any n d w (by omega) (by omega)
  generalize numZ n d = x at *
  generalize denZ n d = y at *
  by_cases hx : x = n
  · have b1 : (x == n) = true := by rw [beq_iff_eq]; exact hx
    by_cases hy : y = d
    · have b2 : (y == d) = true := by rw [beq_iff_eq]; exact hy
      rw [b1, b2]
      obtain rfl : n = x := hx.symm
      obtain rfl : d = y := hy.symm
      go_enter Try.func175, Try.ntmps175
      go_wp2_with fail
      go_region_held3 (fun W => W.cell? ⟨w.heap.size, 0, none⟩ = some (.int .i64 n) ∧ W.cell? ⟨w.heap.size, 1, none⟩ = some (.int .i64 d) ∧ RBox w w.heap.size n d W) (first | exact ⟨HB.out.drew.1, HB.out.drew.2.1, HB.out.drew⟩ | assumption | exact rboxKeep (by assumption) (by assumption)) (first | (go_at_call 166; refine (HR.out _).mono ?_; rintro e w' ⟨rfl, hb'⟩))
      go_wp2_with fail
      go_ret
      exact ⟨by simp, rboxBel (by assumption)⟩
    · have b2 : (y == d) = false := beq_eq_false_iff_ne.2 hy
      have b3 : (d == y) = false := beq_eq_false_iff_ne.2 fun e => hy e.symm
      rw [b1, b2]
      obtain rfl : n = x := hx.symm
      go_enter Try.func175, Try.ntmps175
      go_wp2_with fail
      go_region_held3 (fun W => W.cell? ⟨w.heap.size, 0, none⟩ = some (.int .i64 n) ∧ W.cell? ⟨w.heap.size, 1, none⟩ = some (.int .i64 d) ∧ RBox w w.heap.size n d W) (first | exact ⟨HB.out.drew.1, HB.out.drew.2.1, HB.out.drew⟩ | assumption | exact rboxKeep (by assumption) (by assumption)) (first | (go_at_call 166; refine (HR.out _).mono ?_; rintro e w' ⟨rfl, hb'⟩))
      go_wp2_with fail
      go_ret
      exact ⟨by simp, rboxBel (by assumption)⟩
  · have b1 : (x == n) = false := beq_eq_false_iff_ne.2 hx
    have b3 : (n == x) = false := beq_eq_false_iff_ne.2 fun e => hx e.symm
    rw [b1]
    go_enter Try.func175, Try.ntmps175
    go_wp2_with fail
    go_region_held3 (fun W => W.cell? ⟨w.heap.size, 0, none⟩ = some (.int .i64 n) ∧ W.cell? ⟨w.heap.size, 1, none⟩ = some (.int .i64 d) ∧ RBox w w.heap.size n d W) (first | exact ⟨HB.out.drew.1, HB.out.drew.2.1, HB.out.drew⟩ | assumption | exact rboxKeep (by assumption) (by assumption)) (first | (go_at_call 166; refine (HR.out _).mono ?_; rintro e w' ⟨rfl, hb'⟩))
    go_wp2_with fail
    go_ret
    exact ⟨by simp, rboxBel (by assumption)⟩
end Go.Proofs.Ytachijliaedndaa

/- The program's IsChance, isPlay, isWithinPlay. -/
namespace Go.Proofs.Ytachijliaedndaa
open Go.RowKit
set_option linter.unusedVariables false
theorem within_lit (lo hi x : Int) (X : World) : Calls Try.prog 174 #[.int .i64 lo, .int .i64 hi, .slice (some ⟨X.heap.size, 0, none⟩) 1 1] (X.alloc (.cells #[.int .i64 x] 3)) fun e w' => e = .returned (.bool (inBd lo hi x)) ∧ Below X.heap.size X w' :=
  (within_one lo hi x X).mono fun e w' ⟨h1, h2⟩ => ⟨h1, h2 ▸ (Below.refl _ _).alloc (Nat.le_refl _) _⟩
theorem within_lit2 (lo hi x y : Int) (X : World) : Calls Try.prog 174 #[.int .i64 lo, .int .i64 hi, .slice (some ⟨X.heap.size, 0, none⟩) 2 2] (X.alloc (.cells #[.int .i64 x, .int .i64 y] 3)) fun e w' => e = .returned (.bool (inBd lo hi x && inBd lo hi y)) ∧ Below X.heap.size X w' :=
  (within_two lo hi x y X).mono fun e w' ⟨h1, h2⟩ => ⟨h1, h2 ▸ (Below.refl _ _).alloc (Nat.le_refl _) _⟩
theorem ruB_alt (n d : Int) : (inBd 1 6 d && (inBd 1 (d - 1) n && (numZ n d == n && denZ n d == d))) = ruB n d := by
  unfold ruB
  by_cases h : d = 1
  · have e1 : inBd 1 (d - 1) n = false := by unfold inBd; rw [Bool.and_eq_false_iff, decide_eq_false_iff_not, decide_eq_false_iff_not]; omega
    rw [e1, Bool.false_and, Bool.and_false, Bool.and_false, Bool.false_and]
  · have e1 : inBd 1 6 d = inBd 2 6 d := by
      unfold inBd
      rw [Bool.eq_iff_iff]
      simp only [Bool.and_eq_true, decide_eq_true_eq]
      omega
    rw [e1, Bool.and_assoc]
set_option maxRecDepth 100000 in
set_option maxHeartbeats 2000000 in
theorem isChanceI_ret (n d : Int) (w : World) : Calls Try.prog 41 #[.agg #[.int .i64 n, .int .i64 d]] w (Ret w (.bool (ruB n d))) := by
  obtain ⟨W, hW⟩ : ∃ W, W = w.alloc (.cells #[.int .i64 n, .int .i64 d] 42) := ⟨_, rfl⟩; have hz : W.heap.size = w.heap.size + 1 := (by simp [hW]); have hbx : RBox w w.heap.size n d W := (by rw [hW]; exact RBox.start w n d); have HX := Lib.hid hbx; have HW := Lib.hid hW; have HZ := Lib.hid hz; have r0 := hbx.1; have r1 := hbx.2.1; clear hbx hz
  rw [hW] at r0 r1
  clear hW
  have H1 : Hid (∀ X : World, Calls Try.prog 174 #[.int .i64 1, .int .i64 6, .slice (some ⟨X.heap.size, 0, none⟩) 1 1] (X.alloc (.cells #[.int .i64 d] 3)) fun e w' => e = .returned (.bool (inBd 1 6 d)) ∧ Below X.heap.size X w') := Lib.hid (within_lit 1 6 d)
  have H2 : Hid (∀ X : World, Calls Try.prog 174 #[.int .i64 1, .int .i64 (d - 1), .slice (some ⟨X.heap.size, 0, none⟩) 1 1] (X.alloc (.cells #[.int .i64 n] 3)) fun e w' => e = .returned (.bool (inBd 1 (d - 1) n)) ∧ Below X.heap.size X w') := Lib.hid (within_lit 1 (d - 1) n)
  rw [← ruB_alt]
  rcases Bool.eq_false_or_eq_true (inBd 1 6 d) with a1 | a1
  · have hd : 1 ≤ d ∧ d ≤ 6 := by unfold inBd at a1; simpa only [Bool.and_eq_true, decide_eq_true_eq] using a1
    have k1 := IntWalk.i64_in (d - 1) (by omega)
    rcases Bool.eq_false_or_eq_true (inBd 1 (d - 1) n) with a2 | a2
    · have hn : 1 ≤ n ∧ n ≤ d - 1 := by unfold inBd at a2; simpa only [Bool.and_eq_true, decide_eq_true_eq] using a2
      have H3 : Hid (∀ w, Calls Try.prog 175 #[.agg #[.int .i64 n, .int .i64 d]] w (Ret w (.bool (numZ n d == n && denZ n d == d)))) := Lib.hid fun w => isLowest_any n d w (by omega) (by omega)
      rw [a1] at H1 ⊢
      rw [a2] at H2 ⊢
      generalize (numZ n d == n && denZ n d == d) = b at *
      clear a1 a2
      go_enter Try.func41, Try.ntmps41
      go_wp2_with (rw [← HW.out]; rw [← HZ.out]; go_at_call 174; refine (H1.out _).mono ?_; rintro e w1 ⟨rfl, hb1⟩; have hx1 := HX.out.kept hb1; have c0 := hx1.1; have c1 := hx1.2.1; have HX1 := Lib.hid hx1; clear hx1 hb1)
      clear r0 r1
      go_wp2_with (first | (go_at_call 174; refine (H2.out _).mono ?_; rintro e w2 ⟨rfl, hb2⟩; have hx2 := HX1.out.kept hb2; have g0 := hx2.1; have g1 := hx2.2.1; have HX2 := Lib.hid hx2; clear hx2 hb2 c0 c1) | (go_at_call 175; refine (H3.out _).mono ?_; rintro e w3 ⟨rfl, hb3⟩))
      go_ret
      exact ⟨by simp, HX2.out.2.2.2.trans (hb3.mono HX2.out.2.2.2.size)⟩
    · rw [a1] at H1 ⊢
      rw [a2] at H2 ⊢
      clear a1 a2
      go_enter Try.func41, Try.ntmps41
      go_wp2_with (rw [← HW.out]; rw [← HZ.out]; go_at_call 174; refine (H1.out _).mono ?_; rintro e w1 ⟨rfl, hb1⟩; have hx1 := HX.out.kept hb1; have c0 := hx1.1; have c1 := hx1.2.1; have HX1 := Lib.hid hx1; clear hx1 hb1)
      clear r0 r1
      go_wp2_with (go_at_call 174; refine (H2.out _).mono ?_; rintro e w2 ⟨rfl, hb2⟩; have hx2 := HX1.out.kept hb2; have g0 := hx2.1; have g1 := hx2.2.1; have HX2 := Lib.hid hx2; clear hx2 hb2 c0 c1)
      go_ret
      exact ⟨by simp, HX2.out.2.2.2⟩
  · rw [a1] at H1 ⊢
    clear a1
    go_enter Try.func41, Try.ntmps41
    go_wp2_with (rw [← HW.out]; rw [← HZ.out]; go_at_call 174; refine (H1.out _).mono ?_; rintro e w1 ⟨rfl, hb1⟩; have hx1 := HX.out.kept hb1; have c0 := hx1.1; have c1 := hx1.2.1; have HX1 := Lib.hid hx1; clear hx1 hb1)
    go_ret
    exact ⟨by simp, HX1.out.2.2.2⟩
set_option maxRecDepth 100000 in
set_option maxHeartbeats 2000000 in
theorem isPlay_ret (i g n d : Int) (w : World) : Calls Try.prog 164 #[.int .i64 i, .int .i64 g, .agg #[.int .i64 n, .int .i64 d]] w (Ret w (.bool (askB i g n d))) := by
  obtain ⟨W, hW⟩ : ∃ W, W = w.alloc (.cells #[.int .i64 n, .int .i64 d] 42) := ⟨_, rfl⟩; have hz : W.heap.size = w.heap.size + 1 := (by simp [hW]); have hbx : RBox w w.heap.size n d W := (by rw [hW]; exact RBox.start w n d); have HX := Lib.hid hbx; have HW := Lib.hid hW; have HZ := Lib.hid hz; have r0 := hbx.1; have r1 := hbx.2.1; clear hbx hz
  rw [hW] at r0 r1
  clear hW
  have H1 : Hid (∀ X : World, Calls Try.prog 174 #[.int .i64 1, .int .i64 12, .slice (some ⟨X.heap.size, 0, none⟩) 1 1] (X.alloc (.cells #[.int .i64 g] 3)) fun e w' => e = .returned (.bool (inBd 1 12 g)) ∧ Below X.heap.size X w') := Lib.hid (within_lit 1 12 g)
  have H2 : Hid (∀ X : World, Calls Try.prog 174 #[.int .i64 0, .int .i64 g, .slice (some ⟨X.heap.size, 0, none⟩) 1 1] (X.alloc (.cells #[.int .i64 i] 3)) fun e w' => e = .returned (.bool (inBd 0 g i)) ∧ Below X.heap.size X w') := Lib.hid (within_lit 0 g i)
  have H3 : Hid (∀ w, Calls Try.prog 41 #[.agg #[.int .i64 n, .int .i64 d]] w (Ret w (.bool (ruB n d)))) := Lib.hid fun w => isChanceI_ret n d w
  unfold askB
  generalize ruB n d = b at *
  rcases Bool.eq_false_or_eq_true (inBd 1 12 g) with a1 | a1
  · rcases Bool.eq_false_or_eq_true (inBd 0 g i) with a2 | a2
    · rw [a1] at H1 ⊢
      rw [a2] at H2 ⊢
      clear a1 a2
      go_enter Try.func164, Try.ntmps164
      go_wp2_with (rw [← HW.out]; rw [← HZ.out]; go_at_call 174; refine (H1.out _).mono ?_; rintro e w1 ⟨rfl, hb1⟩; have hx1 := HX.out.kept hb1; have c0 := hx1.1; have c1 := hx1.2.1; have HX1 := Lib.hid hx1; clear hx1 hb1)
      clear r0 r1
      go_wp2_with (first | (go_at_call 174; refine (H2.out _).mono ?_; rintro e w2 ⟨rfl, hb2⟩; have hx2 := HX1.out.kept hb2; have g0 := hx2.1; have g1 := hx2.2.1; have HX2 := Lib.hid hx2; clear hx2 hb2 c0 c1) | (go_at_call 41; refine (H3.out _).mono ?_; rintro e w3 ⟨rfl, hb3⟩))
      go_ret
      exact ⟨by simp, HX2.out.2.2.2.trans (hb3.mono HX2.out.2.2.2.size)⟩
    · rw [a1] at H1 ⊢
      rw [a2] at H2 ⊢
      clear a1 a2
      go_enter Try.func164, Try.ntmps164
      go_wp2_with (rw [← HW.out]; rw [← HZ.out]; go_at_call 174; refine (H1.out _).mono ?_; rintro e w1 ⟨rfl, hb1⟩; have hx1 := HX.out.kept hb1; have c0 := hx1.1; have c1 := hx1.2.1; have HX1 := Lib.hid hx1; clear hx1 hb1)
      clear r0 r1
      go_wp2_with (go_at_call 174; refine (H2.out _).mono ?_; rintro e w2 ⟨rfl, hb2⟩; have hx2 := HX1.out.kept hb2; have g0 := hx2.1; have g1 := hx2.2.1; have HX2 := Lib.hid hx2; clear hx2 hb2 c0 c1)
      go_ret
      exact ⟨by simp, HX2.out.2.2.2⟩
  · rw [a1] at H1 ⊢
    clear a1
    go_enter Try.func164, Try.ntmps164
    go_wp2_with (rw [← HW.out]; rw [← HZ.out]; go_at_call 174; refine (H1.out _).mono ?_; rintro e w1 ⟨rfl, hb1⟩; have hx1 := HX.out.kept hb1; have c0 := hx1.1; have c1 := hx1.2.1; have HX1 := Lib.hid hx1; clear hx1 hb1)
    go_ret
    exact ⟨by simp, HX1.out.2.2.2⟩
set_option maxHeartbeats 1000000 in
theorem isWithinPlay_any (v : Value) (xs : List Int) (g : Int) (w : World) (h : RInts w v xs) (hl : xs.length ≤ 1048576) :
    Calls Try.prog 172 #[.int .i64 g, v] w (Ret w (.bool (inBd 1 12 g && allB xs 1 (g - 1)))) := by
  have H1 : Hid (∀ X : World, Calls Try.prog 174 #[.int .i64 1, .int .i64 12, .slice (some ⟨X.heap.size, 0, none⟩) 1 1] (X.alloc (.cells #[.int .i64 g] 3)) fun e w' => e = .returned (.bool (inBd 1 12 g)) ∧ Below X.heap.size X w') := Lib.hid (within_lit 1 12 g)
  have H2 : Hid (∀ X : World, Below w.heap.size w X → Calls Try.prog 174 #[.int .i64 1, .int .i64 (g - 1), v] X fun e w' => e = .returned (.bool (allB xs 1 (g - 1))) ∧ X = w') := Lib.hid fun X hX => within_any v xs 1 (g - 1) X (h.below hX) hl
  clear h
  generalize allB xs 1 (g - 1) = b at *
  rcases Bool.eq_false_or_eq_true (inBd 1 12 g) with a1 | a1
  · have hg : 1 ≤ g ∧ g ≤ 12 := by unfold inBd at a1; simpa only [Bool.and_eq_true, decide_eq_true_eq] using a1
    have k1 := IntWalk.i64_in (g - 1) (by omega)
    rw [a1] at H1 ⊢
    clear a1
    have tok1 : True := trivial
    go_enter Try.func172, Try.ntmps172
    go_wp2_with (first | (have _t := tok1; go_at_call 174; clear _t tok1; refine (H1.out _).mono ?_; rintro e w1 ⟨rfl, hb1⟩) | (go_at_call 174; refine (H2.out _ hb1).mono ?_; rintro e w2 ⟨rfl, rfl⟩))
    go_ret
    exact ⟨by simp, hb1⟩
  · rw [a1] at H1 ⊢
    clear a1
    go_enter Try.func172, Try.ntmps172
    go_wp2_with (go_at_call 174; refine (H1.out _).mono ?_; rintro e w1 ⟨rfl, hb1⟩)
    go_ret
    exact ⟨by simp, hb1⟩
theorem play_lit (g x : Int) (X : World) : Calls Try.prog 172 #[.int .i64 g, .slice (some ⟨X.heap.size, 0, none⟩) 1 1] (X.alloc (.cells #[.int .i64 x] 3)) fun e w' => e = .returned (.bool (inBd 1 12 g && inBd 1 (g - 1) x)) ∧ Below X.heap.size X w' :=
  (isWithinPlay_any _ [x] g _ (one_ints X x) (by simp)).mono fun e w' ⟨h1, h2⟩ => ⟨by rw [h1]; simp [allB], ((Below.refl _ _).alloc (Nat.le_refl _) _).trans (h2.mono (by simp))⟩
theorem play_lit2 (g x y : Int) (X : World) : Calls Try.prog 172 #[.int .i64 g, .slice (some ⟨X.heap.size, 0, none⟩) 2 2] (X.alloc (.cells #[.int .i64 x, .int .i64 y] 3)) fun e w' => e = .returned (.bool (inBd 1 12 g && (inBd 1 (g - 1) x && inBd 1 (g - 1) y))) ∧ Below X.heap.size X w' :=
  (isWithinPlay_any _ [x, y] g _ (two_ints X x y) (by simp)).mono fun e w' ⟨h1, h2⟩ => ⟨by rw [h1]; simp [allB], ((Below.refl _ _).alloc (Nat.le_refl _) _).trans (h2.mono (by simp))⟩
end Go.Proofs.Ytachijliaedndaa
