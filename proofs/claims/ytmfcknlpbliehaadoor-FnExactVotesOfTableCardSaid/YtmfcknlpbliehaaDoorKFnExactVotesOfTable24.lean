/- Pack 24 of what FnExactVotesOfTable needs: LowI, PlayI. -/
import Derived.Test.YtmfcknlpbliehaaDoorKFnExactVotesOfTable23
/- The program's lowestTerms (any numerator of at least 0), rest, isLowest, power, sumOf of ints. -/
namespace Go.Proofs.YtmfcknlpbliehaaDoor
open Go.RowKit
set_option linter.unusedVariables false
theorem div_bdZ (p x : Nat) (h : p ≤ 9000000000000000000) : 0 ≤ (p : Int) / (x : Int) ∧ (p : Int) / (x : Int) ≤ 9000000000000000000 := by
  rw [cast_div]
  have := Nat.div_le_self p x
  generalize p / x = z at *
  omega
theorem numZ_nat (p q : Nat) : numZ (p : Int) (q : Int) = ((p / Nat.gcd p q : Nat) : Int) := by
  unfold numZ
  rw [Int.natAbs_natCast, Int.natAbs_natCast, Int.tdiv_eq_ediv_of_nonneg (by omega)]
  exact cast_div _ _
theorem denZ_nat (p q : Nat) : denZ (p : Int) (q : Int) = ((q / Nat.gcd p q : Nat) : Int) := by
  unfold denZ
  rw [Int.natAbs_natCast, Int.natAbs_natCast, Int.tdiv_eq_ediv_of_nonneg (by omega)]
  exact cast_div _ _
/-- the sum of the first k -/
def sumK (xs : List Int) (k : Nat) : Int := sumTo (fun j => xs.getD j 0) k
set_option maxHeartbeats 800000 in
theorem sumInts_any (v : Value) (xs : List Int) (w : World) (h : RInts w v xs) (hl : xs.length ≤ 1048576) (hb : ∀ k, k ≤ xs.length → 0 ≤ sumK xs k ∧ sumK xs k ≤ 9000000000000000000) :
    Calls Tryd.prog 51 #[v] w fun e w' => e = .returned (.int .i64 (sumK xs xs.length)) ∧ w = w' := by
  obtain ⟨A0, cap, rfl⟩ := h.shape
  have H := Lib.hid h
  have HB := Lib.hid hb
  have HS : Hid (∀ k, sumK xs (k + 1) = sumK xs k + xs.getD k 0) := Lib.hid fun _ => rfl
  clear h hb
  go_enter Tryd.func51, Tryd.ntmps51
  go_wp2
  go_loop [3, 8] (fun o i => ∃ k : Nat, k ≤ xs.length ∧ i = .int .i64 (k : Int) ∧ o = .int .i64 (sumK xs k)) (fun _ i => xs.length - (intOf i).toNat)
  case atStart => exact ⟨0, by omega, rfl, rfl⟩
  case round =>
    obtain ⟨k, hk, rfl, rfl⟩ := hrel
    by_cases hlt : k < xs.length
    · obtain ⟨g, o, cc, hv, hg, hcells⟩ := H.out.cells (by omega)
      have hA : A0 = some ⟨g, o, none⟩ := by injection hv
      subst hA
      clear hv
      have e1 := hcells k hlt
      clear hcells
      have b1 := HB.out k (by omega)
      have b2 := HB.out (k + 1) (by omega)
      rw [HS.out] at b2
      have HN := Lib.hid (HS.out k)
      generalize xs.getD k 0 = x at *
      generalize sumK xs k = y at *
      go_wp2
      go_round
      case rel => exact ⟨k + 1, by omega, by go_num, by rw [HN.out]⟩
      case measure => first | (simp [intOf]; done) | (simp [intOf]; omega)
    · obtain rfl : k = xs.length := by omega
      have b1 := HB.out xs.length (by omega)
      go_wp2
      go_ret
      exact ⟨rfl, rfl⟩
/-- isWithin of one number, in the world that its slice has made -/
theorem within_one (lo hi x : Int) (w : World) : Calls Tryd.prog 37 #[.int .i64 lo, .int .i64 hi, .slice (some ⟨w.heap.size, 0, none⟩) 1 1] (w.alloc (.cells #[.int .i64 x] 3)) fun e w' => e = .returned (.bool (inBd lo hi x)) ∧ w.alloc (.cells #[.int .i64 x] 3) = w' := by
  have h := within_any _ [x] lo hi _ (one_ints w x) (by simp)
  rwa [show allB [x] lo hi = inBd lo hi x by simp [allB]] at h
theorem within_two (lo hi x y : Int) (w : World) : Calls Tryd.prog 37 #[.int .i64 lo, .int .i64 hi, .slice (some ⟨w.heap.size, 0, none⟩) 2 2] (w.alloc (.cells #[.int .i64 x, .int .i64 y] 3)) fun e w' => e = .returned (.bool (inBd lo hi x && inBd lo hi y)) ∧ w.alloc (.cells #[.int .i64 x, .int .i64 y] 3) = w' := by
  have h := within_any _ [x, y] lo hi _ (two_ints w x y) (by simp)
  rwa [show allB [x, y] lo hi = (inBd lo hi x && inBd lo hi y) by simp [allB]] at h
end Go.Proofs.YtmfcknlpbliehaaDoor

/- The program's IsChance, isPlay, isWithinPlay. -/
namespace Go.Proofs.YtmfcknlpbliehaaDoor
open Go.RowKit
set_option linter.unusedVariables false
theorem within_lit (lo hi x : Int) (X : World) : Calls Tryd.prog 37 #[.int .i64 lo, .int .i64 hi, .slice (some ⟨X.heap.size, 0, none⟩) 1 1] (X.alloc (.cells #[.int .i64 x] 3)) fun e w' => e = .returned (.bool (inBd lo hi x)) ∧ Below X.heap.size X w' :=
  (within_one lo hi x X).mono fun e w' ⟨h1, h2⟩ => ⟨h1, h2 ▸ (Below.refl _ _).alloc (Nat.le_refl _) _⟩
theorem within_lit2 (lo hi x y : Int) (X : World) : Calls Tryd.prog 37 #[.int .i64 lo, .int .i64 hi, .slice (some ⟨X.heap.size, 0, none⟩) 2 2] (X.alloc (.cells #[.int .i64 x, .int .i64 y] 3)) fun e w' => e = .returned (.bool (inBd lo hi x && inBd lo hi y)) ∧ Below X.heap.size X w' :=
  (within_two lo hi x y X).mono fun e w' ⟨h1, h2⟩ => ⟨h1, h2 ▸ (Below.refl _ _).alloc (Nat.le_refl _) _⟩
theorem ruB_alt (n d : Int) : (inBd 1 6 d && (inBd 1 (d - 1) n && (numZ n d == n && denZ n d == d))) = ruB n d := by
  unfold ruB
  by_cases h : d = 1
  · have e1 : inBd 1 (d - 1) n = false := by unfold inBd; rw [Bool.and_eq_false_iff, decide_eq_false_iff_not, decide_eq_false_iff_not]; omega
    rw [e1, Bool.false_and, Bool.and_false, Bool.and_false, Bool.false_and]
  · have e1 : inBd 1 6 d = inBd 2 6 d := by
      unfold inBd
      rw [Bool.eq_iff_iff]
      simp only [Bool.and_eq_true, decide_eq_true_eq]
      omega
    rw [e1, Bool.and_assoc]
end Go.Proofs.YtmfcknlpbliehaaDoor
