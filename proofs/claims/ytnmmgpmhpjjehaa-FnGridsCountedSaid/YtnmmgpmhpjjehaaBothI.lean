/- countWithBoth of the program with its two function values; CountDelannoy, CountSchroder. -/
import Derived.Test.YtnmmgpmhpjjehaaBothMath
import Derived.Test.YtnmmgpmhpjjehaaCounts
import Derived.Test.YtnmmgpmhpjjehaaBalCount
import Derived.Test.YtnmmgpmhpjjehaaKmI
import Derived.Laws.EntriesVeiled
import Derived.Lib.MinMax
namespace Go.Proofs.Ytnmmgpmhpjjehaa
open Go.RowKit
set_option linter.unusedVariables false
set_option maxRecDepth 100000 in
set_option maxHeartbeats 1600000 in
theorem withBothP (c : Nat → Nat → Nat) (m n : Nat) (hm : m ≤ 12) (hn : n ≤ 12) (hc : ∀ a b, a ≤ 12 → b ≤ 12 → c a b ≤ 16777216) (w : World)
    (HC : Hid (∀ (b : Nat) (w : World), b ≤ min m n → Calls Try.prog 70 #[.int .i64 ((m : Int) - (b : Int)), .int .i64 ((n : Int) - (b : Int))] w (Ret w (.tuple #[.int .i64 ((c (m - b) (n - b) : Nat) : Int), .bool true])))) :
    Calls Try.prog 69 #[.int .i64 (m : Int), .int .i64 (n : Int), .func (.func 70) #[] #[]] w (Ret w (.int .i64 ((bS c m n (min m n + 1) : Nat) : Int))) := by
  have HH := Lib.hid hc
  clear hc
  go_enter Try.func69, Try.ntmps69
  go_wp2
  go_loopw [7, 17] (fun s i wr => ∃ b : Nat, b ≤ min m n + 1 ∧ i = .int .i64 (b : Int) ∧ s = .int .i64 ((bS c m n b : Nat) : Int) ∧ Below w.heap.size w wr) (fun _ i _ => min m n + 1 - (intOf i).toNat)
  case atStart => exact ⟨0, Nat.zero_le _, rfl, rfl, Below.refl _ _⟩
  case round =>
    obtain ⟨b, hb, rfl, rfl, hbel⟩ := hrel
    by_cases hlt : b < min m n + 1
    · have i1 : (b : Int) < min (m : Int) (n : Int) + 1 := by omega
      have HCB := Lib.hid (fun w => HC.out b w (by omega))
      have HPB : Hid (∀ w, Calls Try.prog 70 #[.int .i64 (b : Int), .int .i64 ((m : Int) + (n : Int) - 2 * (b : Int))] w fun e w' => e = .returned (.tuple #[.int .i64 ((chs (m + n - b) b : Nat) : Int), .bool true]) ∧ w = w') := Lib.hid fun w => by
        have := count_yes b (m + n - 2 * b) w (by omega)
        rw [show m + n - 2 * b + b = m + n - b by omega] at this
        rwa [show ((m + n - 2 * b : Nat) : Int) = (m : Int) + (n : Int) - 2 * (b : Int) by omega] at this
      have HS : Hid (bS c m n (b + 1) = bS c m n b + c (m - b) (n - b) * chs (m + n - b) b) := Lib.hid rfl
      have h1 := bS_bd hm hn HH.out b (by omega)
      have h2 := HH.out (m - b) (n - b) (by omega) (by omega)
      have h3 : chs (m + n - b) b ≤ 16777216 := chs24 (b := 0) (by omega)
      have h4 : 0 ≤ ((c (m - b) (n - b) : Nat) : Int) * ((chs (m + n - b) b : Nat) : Int) ∧ ((c (m - b) (n - b) : Nat) : Int) * ((chs (m + n - b) b : Nat) : Int) ≤ 281474976710656 := by
        have := Nat.mul_le_mul h2 h3
        rw [← Int.natCast_mul]; omega
      have h5 : ((bS c m n b : Nat) : Int) ≤ 3659174697238528 := by
        have : b * 281474976710656 ≤ 13 * 281474976710656 := Nat.mul_le_mul (by omega) (Nat.le_refl _)
        omega
      have HB := Lib.hid hbel
      clear hbel h1 HH
      generalize c (m - b) (n - b) = x at *
      generalize chs (m + n - b) b = y at *
      generalize bS c m n b = s at *
      have tok1 : True := trivial
      go_wp2_with (first | (have _t := tok1; go_at_call 70; clear _t tok1; refine (HCB.out _).mono ?_; rintro e w2 ⟨rfl, hb2⟩) | (go_at_call 70; refine (HPB.out _).mono ?_; rintro e w' ⟨rfl, rfl⟩))
      have HB2 := Lib.hid (HB.out.trans (hb2.mono HB.out.size))
      clear hb2
      go_roundw
      case rel => exact ⟨b + 1, by omega, by go_num, by rw [HS.out]; go_num, HB2.out⟩
      case measure => simp [intOf]; omega
    · obtain rfl : b = min m n + 1 := by omega
      have i1 : ¬ (((min m n + 1 : Nat) : Int) < min (m : Int) (n : Int) + 1) := by omega
      have HB := Lib.hid hbel
      clear hbel
      go_wp2
      go_ret
      exact ⟨rfl, HB.out⟩
set_option maxRecDepth 100000 in
set_option maxHeartbeats 1600000 in
theorem withBothS (c : Nat → Nat → Nat) (m n : Nat) (hm : m ≤ 12) (hn : n ≤ 12) (hc : ∀ a b, a ≤ 12 → b ≤ 12 → c a b ≤ 16777216) (w : World)
    (HC : Hid (∀ (b : Nat) (w : World), b ≤ min m n → Calls Try.prog 72 #[.int .i64 ((m : Int) - (b : Int)), .int .i64 ((n : Int) - (b : Int))] w (Ret w (.tuple #[.int .i64 ((c (m - b) (n - b) : Nat) : Int), .bool true])))) :
    Calls Try.prog 69 #[.int .i64 (m : Int), .int .i64 (n : Int), .func (.func 72) #[] #[]] w (Ret w (.int .i64 ((bS c m n (min m n + 1) : Nat) : Int))) := by
  have HH := Lib.hid hc
  clear hc
  go_enter Try.func69, Try.ntmps69
  go_wp2
  go_loopw [7, 17] (fun s i wr => ∃ b : Nat, b ≤ min m n + 1 ∧ i = .int .i64 (b : Int) ∧ s = .int .i64 ((bS c m n b : Nat) : Int) ∧ Below w.heap.size w wr) (fun _ i _ => min m n + 1 - (intOf i).toNat)
  case atStart => exact ⟨0, Nat.zero_le _, rfl, rfl, Below.refl _ _⟩
  case round =>
    obtain ⟨b, hb, rfl, rfl, hbel⟩ := hrel
    by_cases hlt : b < min m n + 1
    · have i1 : (b : Int) < min (m : Int) (n : Int) + 1 := by omega
      have HCB := Lib.hid (fun w => HC.out b w (by omega))
      have HPB : Hid (∀ w, Calls Try.prog 70 #[.int .i64 (b : Int), .int .i64 ((m : Int) + (n : Int) - 2 * (b : Int))] w fun e w' => e = .returned (.tuple #[.int .i64 ((chs (m + n - b) b : Nat) : Int), .bool true]) ∧ w = w') := Lib.hid fun w => by
        have := count_yes b (m + n - 2 * b) w (by omega)
        rw [show m + n - 2 * b + b = m + n - b by omega] at this
        rwa [show ((m + n - 2 * b : Nat) : Int) = (m : Int) + (n : Int) - 2 * (b : Int) by omega] at this
      have HS : Hid (bS c m n (b + 1) = bS c m n b + c (m - b) (n - b) * chs (m + n - b) b) := Lib.hid rfl
      have h1 := bS_bd hm hn HH.out b (by omega)
      have h2 := HH.out (m - b) (n - b) (by omega) (by omega)
      have h3 : chs (m + n - b) b ≤ 16777216 := chs24 (b := 0) (by omega)
      have h4 : 0 ≤ ((c (m - b) (n - b) : Nat) : Int) * ((chs (m + n - b) b : Nat) : Int) ∧ ((c (m - b) (n - b) : Nat) : Int) * ((chs (m + n - b) b : Nat) : Int) ≤ 281474976710656 := by
        have := Nat.mul_le_mul h2 h3
        rw [← Int.natCast_mul]; omega
      have h5 : ((bS c m n b : Nat) : Int) ≤ 3659174697238528 := by
        have : b * 281474976710656 ≤ 13 * 281474976710656 := Nat.mul_le_mul (by omega) (Nat.le_refl _)
        omega
      have HB := Lib.hid hbel
      clear hbel h1 HH
      generalize c (m - b) (n - b) = x at *
      generalize chs (m + n - b) b = y at *
      generalize bS c m n b = s at *
      go_wp2_with (first | (go_at_call 70; refine (HPB.out _).mono ?_; rintro e w' ⟨rfl, rfl⟩) | (go_at_call 72; refine (HCB.out _).mono ?_; rintro e w2 ⟨rfl, hb2⟩))
      have HB2 := Lib.hid (HB.out.trans (hb2.mono HB.out.size))
      clear hb2
      go_roundw
      case rel => exact ⟨b + 1, by omega, by go_num, by rw [HS.out]; go_num, HB2.out⟩
      case measure => simp [intOf]; omega
    · obtain rfl : b = min m n + 1 := by omega
      have i1 : ¬ (((min m n + 1 : Nat) : Int) < min (m : Int) (n : Int) + 1) := by omega
      have HB := Lib.hid hbel
      clear hbel
      go_wp2
      go_ret
      exact ⟨rfl, HB.out⟩
theorem lit2 (w : World) (x y : Int) : RInts (w.alloc (.cells #[.int .i64 x, .int .i64 y] 3)) (.slice (some ⟨w.heap.size, 0, none⟩) 2 2) [x, y] :=
  RInts.of_row (B := w.heap.size) (IRow.of_own (World.ownsRow_lit w #[.int .i64 x, .int .i64 y] 2 (Nat.le_refl _) (by simp [maxLen]) rfl) (by simp) (by simp))
theorem delOk_in (a b : Int) : delOk a b = allB [a, b] 0 12 := by
  unfold delOk allB
  simp [inBd]
set_option maxRecDepth 100000 in
set_option maxHeartbeats 1600000 in
theorem countDelannoy_ret (a b : Int) (w : World) : Calls Try.prog 22 #[.int .i64 a, .int .i64 b] w (Ret w (.tuple #[.int .i64 (delV a b), .bool (delOk a b)])) := by
  have hb1 : Below w.heap.size w (w.alloc (.cells #[.int .i64 a, .int .i64 b] 3)) := (Below.refl _ _).alloc (Nat.le_refl _) _
  have HI := Lib.hid (within_any _ [a, b] 0 12 _ (lit2 w a b) (by simp))
  rw [← delOk_in] at HI
  rcases Bool.eq_false_or_eq_true (delOk a b) with ho | ho
  · have h := ho
    unfold delOk at h
    simp only [Bool.and_eq_true, decide_eq_true_eq] at h
    have e2 : delV a b = ((del b.toNat a.toNat : Nat) : Int) := by rw [delV, if_pos ho]
    obtain ⟨m, rfl⟩ := Int.eq_ofNat_of_zero_le h.1.1
    obtain ⟨n, rfl⟩ := Int.eq_ofNat_of_zero_le h.2.1
    simp only [Int.toNat_natCast] at e2
    have HM : Hid (∀ w, Calls Try.prog 69 #[.int .i64 (m : Int), .int .i64 (n : Int), .func (.func 70) #[] #[]] w (Ret w (.int .i64 (delV m n)))) := Lib.hid fun w => by
      have := withBothP cCh m n (by omega) (by omega) (fun _ _ ha hb => cCh_le ha hb) w (Lib.hid fun b w hb => by
        have h3 := count_yes (m - b) (n - b) w (by omega)
        rw [show ((m - b : Nat) : Int) = (m : Int) - (b : Int) by omega, show ((n - b : Nat) : Int) = (n : Int) - (b : Int) by omega] at h3
        exact h3.mono fun e w' ⟨he, hw⟩ => ⟨he, by subst hw; exact Below.refl _ _⟩)
      rw [both_del (by omega) (by omega)] at this
      rw [e2]
      exact this
    rw [ho] at HI ⊢
    clear e2 ho h
    generalize delV m n = z at *
    go_enter Try.func22, Try.ntmps22
    go_wp2_with (first | (go_at_call 68; refine HI.out.mono ?_; rintro e w' ⟨rfl, rfl⟩) | (go_at_call 69; refine (HM.out _).mono ?_; rintro e w2 ⟨rfl, hb2⟩))
    go_ret2
    exact ⟨rfl, hb1.trans (hb2.mono (by simp))⟩
  · have e2 : delV a b = 0 := by rw [delV, ho]; rfl
    rw [ho] at HI ⊢
    rw [e2]
    clear e2 ho
    go_enter Try.func22, Try.ntmps22
    go_wp2_with (go_at_call 68; refine HI.out.mono ?_; rintro e w' ⟨rfl, rfl⟩)
    go_ret2
    exact ⟨rfl, hb1⟩
theorem never_cat (a : Nat) (h : a ≤ 12) : neverV (a : Int) (a : Int) 1 = ((cCat a a : Nat) : Int) ∧ allOk (a : Int) (a : Int) 1 = true := by
  have h1 : allOk (a : Int) (a : Int) 1 = true := by
    unfold allOk inK cntOk
    simp
    omega
  refine ⟨?_, h1⟩
  rw [neverV_yes h1, neverN_2 (by omega), cntV_yes (by omega), show (a : Int) + 1 - 1 * (a : Int) = 1 by omega, Int.mul_one]
  unfold cCat
  rw [Int.natCast_ediv]
  rfl
set_option maxRecDepth 100000 in
theorem schro_clo (a : Nat) (h : a ≤ 12) (x : Int) (hx : x = (a : Int)) (w : World) : Calls Try.prog 72 #[.int .i64 x, .int .i64 x] w (Ret w (.tuple #[.int .i64 ((cCat a a : Nat) : Int), .bool true])) := by
  have HN : Hid (∀ w, Calls Try.prog 73 #[.int .i64 x, .int .i64 x, .int .i64 1] w (Ret w (.tuple #[.int .i64 ((cCat a a : Nat) : Int), .bool true]))) := Lib.hid fun w => by
    have := countNever_ret (a : Int) (a : Int) 1 w
    rw [(never_cat a h).1, (never_cat a h).2] at this
    rw [hx]
    exact this
  clear hx
  generalize cCat a a = z at *
  go_enter Try.func72, Try.ntmps72
  go_wp2_with (go_at_call 73; refine (HN.out _).mono ?_; rintro e w2 ⟨rfl, hb2⟩)
  go_ret2
  exact ⟨rfl, hb2⟩
set_option maxRecDepth 100000 in
set_option maxHeartbeats 1600000 in
theorem countSchroder_ret (a : Int) (w : World) : Calls Try.prog 25 #[.int .i64 a] w (Ret w (.tuple #[.int .i64 (schV a), .bool (schOk a)])) := by
  have hb1 : Below w.heap.size w (w.alloc (.cells #[.int .i64 a] 3)) := (Below.refl _ _).alloc (Nat.le_refl _) _
  have HI : Hid (∀ w : World, Calls Try.prog 68 #[.int .i64 0, .int .i64 12, .slice (some ⟨w.heap.size, 0, none⟩) 1 1] (w.alloc (.cells #[.int .i64 a] 3)) fun e w' => e = .returned (.bool (schOk a)) ∧ (w.alloc (.cells #[.int .i64 a] 3)) = w') := Lib.hid fun w => lit_within a 0 12 w
  rcases Bool.eq_false_or_eq_true (schOk a) with ho | ho
  · have h := ho
    unfold schOk at h
    simp only [Bool.and_eq_true, decide_eq_true_eq] at h
    have e2 : schV a = ((sch a.toNat a.toNat : Nat) : Int) := by rw [schV, if_pos ho]
    obtain ⟨n, rfl⟩ := Int.eq_ofNat_of_zero_le h.1
    simp only [Int.toNat_natCast] at e2
    have HM : Hid (∀ w, Calls Try.prog 69 #[.int .i64 (n : Int), .int .i64 (n : Int), .func (.func 72) #[] #[]] w (Ret w (.int .i64 (schV n)))) := Lib.hid fun w => by
      have := withBothS cCat n n (by omega) (by omega) (fun _ _ ha hb => cCat_le ha hb) w (Lib.hid fun b w hb => schro_clo (n - b) (by omega) _ (by omega) w)
      rw [Nat.min_self, both_sch (by omega)] at this
      rw [e2]
      exact this
    rw [ho] at HI ⊢
    clear e2 ho h
    generalize schV n = z at *
    go_enter Try.func25, Try.ntmps25
    go_wp2_with (first | (go_at_call 68; refine (HI.out _).mono ?_; rintro e w' ⟨rfl, rfl⟩) | (go_at_call 69; refine (HM.out _).mono ?_; rintro e w2 ⟨rfl, hb2⟩))
    go_ret2
    exact ⟨rfl, hb1.trans (hb2.mono (by simp))⟩
  · have e2 : schV a = 0 := by rw [schV, ho]; rfl
    rw [ho] at HI ⊢
    rw [e2]
    clear e2 ho
    go_enter Try.func25, Try.ntmps25
    go_wp2_with (go_at_call 68; refine (HI.out _).mono ?_; rintro e w' ⟨rfl, rfl⟩)
    go_ret2
    exact ⟨rfl, hb1⟩
end Go.Proofs.Ytnmmgpmhpjjehaa
