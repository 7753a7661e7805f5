/- countOfForests, the program's RankOfTree. -/
import Derived.Test.YtgajknnfmnnfeaaTreeRank
import Derived.Test.YtgajknnfmnnfeaaCounts
import Derived.Test.YtgajknnfmnnfeaaDegI
namespace Go.Proofs.Ytgajknnfmnnfeaa
open Go.RowKit
set_option linter.unusedVariables false
theorem numN_alt (n t : Nat) (hn : 0 < n) (ht : t ≤ n) : numN n t = chs ((n - t) + (n - 1)) (n - 1) * t / n := by
  unfold numN
  by_cases h0 : t = 0
  · subst h0
    rw [if_pos (.inr rfl), if_neg (by omega), Nat.mul_zero, Nat.zero_div]
  · rw [if_neg (by omega), if_neg (by omega)]
    have h1 := chs_absorb ((n - t) + (n - 1)) (n - 1)
    rw [show n - 1 + 1 = n by omega, show n - t + (n - 1) + 1 = 2 * n - t by omega] at h1
    generalize chs (2 * n - t) n = C1 at *
    generalize chs ((n - t) + (n - 1)) (n - 1) = C0 at *
    have hM : 0 < 2 * n - t := by omega
    generalize 2 * n - t = M at *
    rw [← Nat.mul_div_mul_left (C1 * t) M hn, ← Nat.mul_div_mul_left (C0 * t) n hM, ← Nat.mul_assoc, h1, Nat.mul_assoc, Nat.mul_comm n M]
theorem numN_far (n t : Nat) (hn : 0 < n) (ht : n < t) : numN n t = 0 := by
  unfold numN
  rw [if_neg (by omega), if_pos ht]
set_option maxHeartbeats 800000 in
theorem countOf_any (n t : Nat) (w : World) (hn : n ≤ 16) (ht : t ≤ 1000) :
    Calls Try.prog 91 #[.int .i64 t, .int .i64 n] w fun e w' => e = .returned (.int .i64 (numN n t : Nat)) ∧ w = w' := by
  by_cases h0 : n = 0
  · subst h0
    by_cases h1 : t = 0
    · subst h1
      go_enter Try.func91, Try.ntmps91
      go_wp2
      go_ret
      exact ⟨rfl, rfl⟩
    · have e : numN 0 t = 0 := by unfold numN; rw [if_pos (.inl rfl), if_neg (by omega)]
      have q : ((t : Int) == 0) = false := beq_eq_false_iff_ne.2 (by omega)
      rw [e]
      go_enter Try.func91, Try.ntmps91
      go_wp2
      go_ret
      exact ⟨rfl, rfl⟩
  · have q0 : ((n : Int) == 0) = false := beq_eq_false_iff_ne.2 (by omega)
    by_cases h2 : n < t
    · rw [numN_far n t (by omega) h2]
      have HC : Hid (∀ w, Calls Try.prog 87 #[.int .i64 ((n : Int) - 1), .int .i64 ((n : Int) - (t : Int))] w fun e w' => e = .returned (.tuple #[.int .i64 0, .bool false]) ∧ w = w') := Lib.hid fun w => count_no _ _ w (by omega)
      have m3 : (0 : Int) < (n : Int) := by omega
      have HZ : Hid ((0 : Int).tdiv (n : Int) = 0) := Lib.hid (Int.zero_tdiv _)
      go_enter Try.func91, Try.ntmps91
      go_wp2_with (go_at_call 87; refine (HC.out _).mono ?_; rintro e w1 ⟨rfl, rfl⟩)
      go_ret
      exact ⟨by simp, rfl⟩
    · rw [numN_alt n t (by omega) (by omega)]
      have HC : Hid (∀ w, Calls Try.prog 87 #[.int .i64 ((n : Int) - 1), .int .i64 ((n : Int) - (t : Int))] w fun e w' => e = .returned (.tuple #[.int .i64 (chs ((n - t) + (n - 1)) (n - 1) : Nat), .bool true]) ∧ w = w') := Lib.hid fun w => by
        have := count_yes (n - 1) (n - t) w (by omega)
        rwa [show ((n - 1 : Nat) : Int) = (n : Int) - 1 by omega, show ((n - t : Nat) : Int) = (n : Int) - (t : Int) by omega] at this
      have hc := chs_small40 ((n - t) + (n - 1)) (n - 1) (by omega)
      have HD : Hid (((chs ((n - t) + (n - 1)) (n - 1) * t / n : Nat) : Int) = ((chs ((n - t) + (n - 1)) (n - 1) : Nat) : Int) * (t : Int) / (n : Int)) := by
        unfold Hid
        rw [Int.natCast_ediv, Int.natCast_mul]
      rw [HD.out]
      clear HD
      generalize chs ((n - t) + (n - 1)) (n - 1) = C at *
      have m0 : C * t ≤ 1099511627776 * 16 := Nat.mul_le_mul hc (by omega)
      have m1 : (C : Int) * (t : Int) ≤ 17592186044416 := by
        rw [← Int.natCast_mul]
        exact Int.ofNat_le.2 m0
      have m2 : (0 : Int) ≤ (C : Int) * (t : Int) := by
        rw [← Int.natCast_mul]
        exact Int.natCast_nonneg _
      have m3 : (0 : Int) < (n : Int) := by omega
      clear m0
      go_enter Try.func91, Try.ntmps91
      go_wp2_with (go_at_call 87; refine (HC.out _).mono ?_; rintro e w1 ⟨rfl, rfl⟩)
      go_ret
      exact ⟨rfl, rfl⟩
set_option maxHeartbeats 2000000 in
theorem rankOfTree_any (v : Value) (xs : List Int) (w : World) (h : RInts w v xs) (hl : xs.length ≤ 1048576) :
    Calls Try.prog 55 #[v] w fun e w' => e = .returned (.tuple #[.int .i64 (rtV xs), .bool (rtOk xs)]) ∧ w = w' := by
  obtain ⟨A0, cap, rfl⟩ := h.shape
  have H := Lib.hid h
  have HI : Hid (Calls Try.prog 76 #[.slice A0 xs.length cap] w fun e w' => e = .returned (.bool (rtOk xs)) ∧ w = w') := Lib.hid (isTree_any _ xs w h hl)
  clear h
  rcases Bool.eq_false_or_eq_true (rtOk xs) with hf | hf
  · have hb0 := hf
    unfold rtOk forV at hb0
    rw [Bool.and_eq_true, Bool.and_eq_true, decide_eq_true_iff] at hb0
    obtain ⟨⟨hd, hb⟩, he⟩ := hb0
    have e2 : rtV xs = (rkT xs xs.length : Nat) := by unfold rtV; rw [hf]; rfl
    rw [hf, e2]
    rw [hf] at HI
    have HT := Lib.hid (fun k => trT_pos hb he k)
    have HD := Lib.hid hd
    have hn := (degB_of hd).1
    clear e2 hf hb he hd
    go_enter Try.func55, Try.ntmps55
    go_wp2_with (go_at_call 76; refine HI.out.mono ?_; rintro e w1 ⟨rfl, rfl⟩)
    go_loop [4, 5, 6, 7, 8, 14] (fun r t q1 q2 q3 i => ∃ k : Nat, k ≤ xs.length ∧ i = .int .i64 (k : Int) ∧ ∃ (R : Nat) (T : Int), r = .int .i64 (R : Int) ∧ t = .int .i64 T ∧ R = rkT xs k ∧ T = 1 + sumT xs k - (k : Int)) (fun _ _ _ _ _ i => xs.length - (intOf i).toNat)
    case atStart => exact ⟨0, by omega, rfl, 0, 1, rfl, rfl, rfl, by rw [sumT_0]; rfl⟩
    case round =>
      obtain ⟨k, hk, rfl, R, T, rfl, rfl, hR, hT⟩ := hrel
      by_cases hlt : k < xs.length
      · obtain ⟨g, o, cc, hv, hg, hcells⟩ := H.out.cells (by omega)
        have hA : A0 = some ⟨g, o, none⟩ := by injection hv
        subst hA
        clear hv
        have e1 := hcells k hlt
        clear hcells
        have hx := (degB_of HD.out).2 k hlt
        have hT1 := HT.out k hlt
        rw [← hT] at hT1
        have hsb := sumT_bd HD.out k hk
        have hTb : T ≤ 257 := by omega
        have hRb := rkT_bd HD.out k hk
        rw [← hR] at hRb
        have hRb2 : R ≤ 4503599627370496 := by omega
        have HS := Lib.hid (sumT_succ xs k hlt)
        have HR1 : Hid (rkT xs (k + 1) = R + rkIn (xs.length - k - 1) T.toNat (xs.getD k 0).toNat) := by
          unfold Hid
          rw [rkT, hR, hT]
          rfl
        have HT1 : Hid (T + (xs.getD k 0 - 1) = 1 + sumT xs (k + 1) - ((k + 1 : Nat) : Int)) := by have := HS.out; unfold Hid; omega
        clear hR hT hRb HS hsb
        generalize xs.getD k 0 = x at *
        obtain ⟨n, rfl⟩ := Int.eq_ofNat_of_zero_le hx.1
        obtain ⟨S, rfl⟩ := Int.eq_ofNat_of_zero_le (show 0 ≤ T by omega)
        rw [Int.toNat_natCast, Int.toNat_natCast] at HR1
        go_wp2_with fail
        go_loop [4, 8, 20] (fun r q c => ∃ m : Nat, m ≤ n ∧ c = .int .i64 (m : Int) ∧ ∃ V : Nat, r = .int .i64 (V : Int) ∧ V = R + rkIn (xs.length - k - 1) S m) (fun _ _ c => n - (intOf c).toNat)
        case atStart => exact ⟨0, Nat.zero_le _, rfl, R, rfl, rfl⟩
        case round =>
          obtain ⟨m, hm, rfl, V, rfl, hV⟩ := hrel
          clear e1
          have hi := rkIn_bd (xs.length - k - 1) S (by omega) m
          have hVb : V ≤ 5503599627370496 := by omega
          by_cases hmn : m < n
          · have HN : Hid (∀ w, Calls Try.prog 91 #[.int .i64 ((S : Int) - 1 + (m : Int)), .int .i64 ((xs.length : Int) - (k : Int) - 1)] w fun e w' => e = .returned (.int .i64 (numN (xs.length - k - 1) (S - 1 + m) : Nat)) ∧ w = w') := Lib.hid fun w => by
              have := countOf_any (xs.length - k - 1) (S - 1 + m) w (by omega) (by omega)
              rwa [show ((xs.length - k - 1 : Nat) : Int) = (xs.length : Int) - (k : Int) - 1 by omega, show ((S - 1 + m : Nat) : Int) = (S : Int) - 1 + (m : Int) by omega] at this
            have hnb := numN_bd (xs.length - k - 1) (S - 1 + m) (by omega)
            have HV2 : Hid (V + numN (xs.length - k - 1) (S - 1 + m) = R + rkIn (xs.length - k - 1) S (m + 1)) := by unfold Hid; rw [rkIn, hV]; omega
            clear hV hi
            generalize numN (xs.length - k - 1) (S - 1 + m) = C at *
            go_wp2_with (go_at_call 91; refine (HN.out _).mono ?_; rintro e w1 ⟨rfl, rfl⟩)
            go_round
            case rel => exact ⟨m + 1, by omega, by go_num, V + C, by go_num, HV2.out⟩
            case measure => first | (simp [intOf]; done) | (simp [intOf]; omega)
          · have hm2 : m = n := by omega
            subst hm2
            rw [← HR1.out] at hV
            have HV := Lib.hid hV
            clear hV hi
            go_wp2_with fail
            go_round
            case rel => exact ⟨k + 1, by omega, by go_num, V, (S : Int) + ((m : Int) - 1), rfl, by go_num, HV.out, HT1.out⟩
            case measure => first | (simp [intOf]; done) | (simp [intOf]; omega)
      · have hk2 : k = xs.length := by omega
        subst hk2
        have HV := Lib.hid hR
        clear hR hT
        go_wp2_with fail
        go_ret2
        rw [HV.out]
        exact ⟨rfl, rfl⟩
  · have e2 : rtV xs = 0 := by unfold rtV; rw [hf]; rfl
    rw [hf, e2]
    rw [hf] at HI
    clear e2 hf
    go_enter Try.func55, Try.ntmps55
    go_wp2_with (go_at_call 76; refine HI.out.mono ?_; rintro e w1 ⟨rfl, rfl⟩)
    go_ret2
    exact ⟨rfl, rfl⟩
theorem rankOfTree_ret (v : Value) (xs : List Int) (w : World) (h : RInts w v xs) (hl : xs.length ≤ 1048576) :
    Calls Try.prog 55 #[v] w (Ret w (.tuple #[.int .i64 (rtV xs), .bool (rtOk xs)])) :=
  (rankOfTree_any v xs w h hl).mono fun e w' ⟨h1, h2⟩ => ⟨h1, by rw [← h2]; exact Below.refl _ _⟩
end Go.Proofs.Ytgajknnfmnnfeaa
