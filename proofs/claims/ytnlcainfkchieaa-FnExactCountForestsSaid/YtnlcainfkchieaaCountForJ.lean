/- nodesOf, the program's CountForests (from ab164352 on: ordersOf split off). -/
import Derived.Test.YtnlcainfkchieaaCountFor
import Derived.Test.YtnlcainfkchieaaCounts
import Derived.Test.YtnlcainfkchieaaOrdI
namespace Go.Proofs.Ytnlcainfkchieaa
open Go.RowKit
set_option linter.unusedVariables false
theorem exc_eq (L : List Int) : exc L = (L.length : Int) - L.sum := by unfold exc sumT; rw [List.take_length]
theorem sum_rep (d : Int) : ∀ n, (List.replicate n d).sum = (n : Int) * d
  | 0 => by simp
  | n + 1 => by rw [List.replicate_succ, List.sum_cons, sum_rep d n, Int.natCast_succ, Int.add_mul, Int.one_mul, Int.add_comm]
theorem exc_rep (L : List Int) (n : Nat) (d : Int) : exc (L ++ List.replicate n d) = exc L + (n : Int) * (1 - d) := by
  rw [exc_eq, exc_eq, List.length_append, List.sum_append, List.length_replicate, sum_rep, Int.mul_sub, Int.mul_one]
  omega
theorem exc_cts (xs : List Int) (k : Nat) : exc (cts xs (k + 1)) = exc (cts xs k) + ((xs.getD k 0).toNat : Int) * (1 - (k : Int)) := by rw [cts, exc_rep]
theorem ctOk_bad {xs : List Int} {k : Nat} (hk : k < xs.length) (h : xs.getD k 0 < 0 ∨ 16 - ((cts xs k).length : Int) < xs.getD k 0) : ctOk xs = false := by
  by_cases hb : 0 ≤ xs.getD k 0 ∧ xs.getD k 0 ≤ 16
  · refine ctOk_long (k := k + 1) (by omega) ?_
    rw [cts_len]
    omega
  · have : allB xs 0 16 = false := allB_no hk (by unfold inBd; rw [Bool.and_eq_false_iff, decide_eq_false_iff_not, decide_eq_false_iff_not]; omega)
    unfold ctOk ctB
    rw [this, Bool.and_false, Bool.false_and]
theorem ctOk_end {xs : List Int} (h17 : xs.length ≤ 17) (h : ∀ j, j < xs.length → 0 ≤ xs.getD j 0 ∧ xs.getD j 0 ≤ 16) (h16 : (cts xs xs.length).length ≤ 16) : ctOk xs = decide (0 < (cts xs xs.length).length) := by
  have ha : allB xs 0 16 = true := by
    unfold allB inBd
    rw [List.all_eq_true]
    intro x hx
    obtain ⟨i, hi, rfl⟩ := List.mem_iff_getElem.1 hx
    have := h i hi
    rw [List.getD_eq_getElem?_getD, List.getElem?_eq_getElem hi] at this
    simpa using this
  unfold ctOk ctB cntL
  rw [ha, decide_eq_true h17, decide_eq_true h16, Bool.true_and, Bool.true_and, Bool.true_and]
/-- what nodesOf hands back -/
def Nodes (xs : List Int) (w : World) (e : Ending) (w' : World) : Prop :=
  ∃ N E : Int, e = .returned (.tuple #[.int .i64 N, .int .i64 E, .bool (ctOk xs)]) ∧ (ctOk xs = true → N = ((cntL xs).length : Nat) ∧ E = exc (cntL xs)) ∧ w = w'
set_option maxHeartbeats 1600000 in
theorem nodesOf_any (v : Value) (xs : List Int) (w : World) (h : RInts w v xs) (hl : xs.length ≤ 1048576) :
    Calls Try.prog 40 #[v] w (Nodes xs w) := by
  obtain ⟨A0, cap, rfl⟩ := h.shape
  have H := Lib.hid h
  clear h
  by_cases h17 : xs.length ≤ 17
  · have HBAD := Lib.hid (fun k => ctOk_bad (xs := xs) (k := k))
    have HEND := Lib.hid (ctOk_end (xs := xs) h17)
    have HC := Lib.hid (fun k => cts_len xs k)
    have HX := Lib.hid (fun k => exc_cts xs k)
    have hq : ¬ (17 : Int) < (xs.length : Int) := by omega
    go_enter Try.func40, Try.ntmps40
    go_wp2_with fail
    go_loop [5, 6, 7, 8, 14] (fun n x q1 q2 i => ∃ k : Nat, k ≤ xs.length ∧ i = .int .i64 (k : Int) ∧ ∃ (N : Nat) (E : Int), n = .int .i64 (N : Int) ∧ x = .int .i64 E ∧ N ≤ 16 ∧ -16 * (N : Int) ≤ E ∧ E ≤ N ∧ Hid (N = (cts xs k).length ∧ E = exc (cts xs k) ∧ ∀ j, j < k → 0 ≤ xs.getD j 0 ∧ xs.getD j 0 ≤ 16)) (fun _ _ _ _ i => xs.length - (intOf i).toNat)
    case atStart => exact ⟨0, by omega, rfl, 0, 0, rfl, rfl, by omega, by omega, by omega, Lib.hid ⟨rfl, rfl, fun j hj => absurd hj (by omega)⟩⟩
    case round =>
      obtain ⟨k, hk, rfl, N, E, rfl, rfl, hN, hE1, hE2, HI⟩ := hrel
      by_cases hlt : k < xs.length
      · obtain ⟨g, o, cc, hv, hg, hcells⟩ := H.out.cells (by omega)
        have hA : A0 = some ⟨g, o, none⟩ := by injection hv
        subst hA
        clear hv
        have e1 := hcells k hlt
        clear hcells
        have HB1 := Lib.hid (HBAD.out k hlt)
        have HC1 := Lib.hid (HC.out k)
        have HX1 := Lib.hid (HX.out k)
        have HI1 : Hid (N = (cts xs k).length) := Lib.hid HI.out.1
        have HI2 : Hid (E = exc (cts xs k)) := Lib.hid HI.out.2.1
        have HI3 : Hid (∀ x, xs.getD k 0 = x → 0 ≤ x ∧ x ≤ 16 → ∀ j, j < k + 1 → 0 ≤ xs.getD j 0 ∧ xs.getD j 0 ≤ 16) := Lib.hid fun x hx hb j hj => by
          by_cases e : j = k
          · rw [e, hx]; exact hb
          · exact HI.out.2.2 j (by omega)
        rw [← HI1.out] at HB1 HC1
        rw [← HI2.out] at HX1
        have HI4 := Lib.hid (HI3.out (xs.getD k 0) rfl)
        clear HBAD HEND HC HX HI HI3
        generalize xs.getD k 0 = x at *
        by_cases c1 : x < 0
        · have HF := Lib.hid (HB1.out (.inl c1))
          clear HB1 HC1 HX1 HI1 HI2
          go_wp2
          go_ret3
          exact ⟨0, 0, (by rw [HF.out]; rfl), fun h => (by rw [HF.out] at h; cases h), rfl⟩
        · by_cases c2 : 16 - (N : Int) < x
          · have HF := Lib.hid (HB1.out (.inr c2))
            clear HB1 HC1 HX1 HI1 HI2
            go_wp2
            go_ret3
            exact ⟨0, 0, (by rw [HF.out]; rfl), fun h => (by rw [HF.out] at h; cases h), rfl⟩
          · obtain ⟨n, rfl⟩ := Int.eq_ofNat_of_zero_le (show 0 ≤ x by omega)
            have HI5 := Lib.hid (HI4.out (by omega))
            have m1 : (n : Int) * (1 - (k : Int)) ≤ (n : Int) := by
              have := Int.mul_le_mul_of_nonneg_left (show (1 - (k : Int)) ≤ 1 by omega) (show (0 : Int) ≤ (n : Int) by omega)
              omega
            have m2 : -16 * (n : Int) ≤ (n : Int) * (1 - (k : Int)) := by
              have := Int.mul_le_mul_of_nonneg_left (show (-16 : Int) ≤ (1 - (k : Int)) by omega) (show (0 : Int) ≤ (n : Int) by omega)
              omega
            rw [Int.toNat_natCast] at HC1 HX1
            clear HB1 HI4
            go_wp2
            go_round
            case rel => exact ⟨k + 1, by omega, by go_num, N + n, E + (n : Int) * (1 - (k : Int)), by go_num, by go_num, by omega, by omega, by omega, Lib.hid ⟨HC1.out.symm, HX1.out.symm, HI5.out⟩⟩
            case measure => first | (simp [intOf]; done) | (simp [intOf]; omega)
      · have hk2 : k = xs.length := by omega
        obtain ⟨p1, p2, p3⟩ := HI.out
        rw [hk2] at p1 p2 p3
        have HE : Hid (ctOk xs = decide (0 < N)) := Lib.hid (by rw [p1]; exact HEND.out p3 (by omega))
        have HN : Hid (N = (cntL xs).length) := Lib.hid p1
        have HE2 : Hid (E = exc (cntL xs)) := Lib.hid p2
        clear HBAD HEND HC HX HI p1 p2 p3
        go_wp2
        go_ret3
        refine ⟨(N : Int), E, ?_, fun _ => ⟨by rw [HN.out], HE2.out⟩, rfl⟩
        rw [HE.out]
        congr 6
  · have HF : Hid (ctOk xs = false) := Lib.hid (by unfold ctOk ctB; rw [decide_eq_false h17, Bool.false_and, Bool.false_and])
    have hq : (17 : Int) < (xs.length : Int) := by omega
    go_enter Try.func40, Try.ntmps40
    go_wp2
    go_ret3
    exact ⟨0, 0, (by rw [HF.out]; rfl), fun h => (by rw [HF.out] at h; cases h), rfl⟩
set_option maxHeartbeats 2000000 in
theorem countForests_ret (v : Value) (xs : List Int) (w : World) (h : RInts w v xs) (hl : xs.length ≤ 1048576) :
    Calls Try.prog 13 #[v] w (Ret w (.tuple #[.int .i64 (cfV xs), .bool (ctOk xs)])) := by
  obtain ⟨A0, cap, rfl⟩ := h.shape
  have HN := Lib.hid (nodesOf_any _ xs w h hl)
  have H := Lib.hid h
  clear h
  rcases Bool.eq_false_or_eq_true (ctOk xs) with hok | hok
  · obtain ⟨hB, h16, hp⟩ := ctOk_of hok
    obtain ⟨h17, hbd⟩ := ctB_at hB
    have hd := cntL_deg hok
    have hr := exc_bd hd
    have HNN : Hid (Calls Try.prog 40 #[.slice A0 xs.length cap] w fun e w' => e = .returned (.tuple #[.int .i64 ((cntL xs).length : Nat), .int .i64 (exc (cntL xs)), .bool true]) ∧ w = w') :=
      Lib.hid (HN.out.mono fun e w' ⟨N, E, he, hh, hw⟩ => by
        obtain ⟨h1, h2⟩ := hh hok
        rw [he, h1, h2, hok]
        exact ⟨rfl, hw⟩)
    clear HN
    by_cases h1 : exc (cntL xs) < 1
    · rw [cfV_low hok h1, hok]
      clear hd hB hok
      generalize exc (cntL xs) = r at *
      go_enter Try.func13, Try.ntmps13
      go_wp2_with (go_at_call 40; refine HNN.out.mono ?_; rintro e w1 ⟨rfl, rfl⟩)
      go_ret2
      exact ⟨rfl, Below.refl _ _⟩
    · rw [cfV_yes hok h1, hok]
      have HL : ∀ k, k ≤ xs.length → (cts xs k).length ≤ 16 := fun k hk => by
        have := cts_mono xs k (xs.length - k)
        rw [show k + (xs.length - k) = xs.length by omega] at this
        exact Nat.le_trans this h16
      have HOR : Hid (Calls Try.prog 41 #[.slice A0 xs.length cap] w fun e w' => e = .returned (.int .i64 ((ordN xs : Nat) : Int)) ∧ w = w') :=
        Lib.hid (ordersOf_any _ xs w H.out hl (fun k hk => (hbd k hk).1) HL)
      clear hd hB hok hbd
      have hO : ordN xs ≤ 20922789888000 := ords_bd (k := xs.length) h16
      generalize exc (cntL xs) = r at *
      have hLp : 0 < (cntL xs).length := hp
      have hL16 : (cntL xs).length ≤ 16 := h16
      generalize (cntL xs).length = L at *
      obtain ⟨R, rfl⟩ := Int.eq_ofNat_of_zero_le (show 0 ≤ r by omega)
      have hm : ordN xs * R ≤ 20922789888000 * 16 := Nat.mul_le_mul hO (by omega)
      have m1 : (ordN xs : Int) * (R : Int) ≤ 334764638208000 := by
        rw [← Int.natCast_mul]
        exact Int.ofNat_le.2 hm
      have m2 : (0 : Int) ≤ (ordN xs : Int) * (R : Int) := by
        rw [← Int.natCast_mul]
        exact Int.natCast_nonneg _
      have m3 : ((L : Int) == 0) = false := beq_eq_false_iff_ne.2 (by omega)
      have HQ : Hid (((ordN xs : Int) * (R : Int)).tdiv (L : Int) = (ordN xs : Int) * (R : Int) / (L : Int)) := Lib.hid (Int.tdiv_eq_ediv_of_nonneg m2)
      clear hm hO
      generalize ordN xs = O at *
      go_enter Try.func13, Try.ntmps13
      go_wp2_with (first | (go_at_call 40; refine HNN.out.mono ?_; rintro e w1 ⟨rfl, rfl⟩) | (go_at_call 41; refine HOR.out.mono ?_; rintro e w1 ⟨rfl, rfl⟩))
      go_ret2
      exact ⟨rfl, Below.refl _ _⟩
  · rw [cfV_no hok, hok]
    have HNN : Hid (Calls Try.prog 40 #[.slice A0 xs.length cap] w fun e w' => ∃ N E : Int, e = .returned (.tuple #[.int .i64 N, .int .i64 E, .bool false]) ∧ w = w') :=
      Lib.hid (HN.out.mono fun e w' ⟨N, E, he, hh, hw⟩ => ⟨N, E, by rw [he, hok], hw⟩)
    clear HN hok
    go_enter Try.func13, Try.ntmps13
    go_wp2_with (go_at_call 40; refine HNN.out.mono ?_; rintro e w1 ⟨N, E, rfl, rfl⟩)
    go_ret2
    exact ⟨rfl, Below.refl _ _⟩
end Go.Proofs.Ytnlcainfkchieaa
