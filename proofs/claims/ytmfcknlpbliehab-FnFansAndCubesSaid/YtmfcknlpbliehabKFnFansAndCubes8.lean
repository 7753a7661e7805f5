/- Pack 8 of what FnFansAndCubes needs: FcS, BalMath, NcMath. -/
import Derived.Test.YtmfcknlpbliehabKFnFansAndCubes7
import Derived.RegionTactic
import Derived.Deep.QuietTactic
import Derived.BigQuiet
import Derived.IntWalk
/- The model's CountFans, CountCubes. -/
namespace Go.Proofs.Ytmfcknlpbliehab
open Go.RowKit
set_option linter.unusedVariables false
/-- a fraction in its box -/
structure PZ (w : World) (a b : Nat) (W : World) : Prop where
  r0 : W.cell? ⟨w.heap.size, 0, none⟩ = some (.int .i64 (a : Int))
  r1 : W.cell? ⟨w.heap.size, 1, none⟩ = some (.int .i64 (b : Int))
  f0 : W.frozen? ⟨w.heap.size, 0, none⟩ = false
  f1 : W.frozen? ⟨w.heap.size, 1, none⟩ = false
  lt : w.heap.size < W.heap.size
  below : Below w.heap.size w W
theorem PZ.kept {w W W' : World} {a b : Nat} (h : PZ w a b W) (hb : Below W.heap.size W W') : PZ w a b W' :=
  ⟨(hb.cell (p := ⟨w.heap.size, 0, none⟩) h.lt).trans h.r0, (hb.cell (p := ⟨w.heap.size, 1, none⟩) h.lt).trans h.r1, (hb.frozen (p := ⟨w.heap.size, 0, none⟩) h.lt).trans h.f0, (hb.frozen (p := ⟨w.heap.size, 1, none⟩) h.lt).trans h.f1, Nat.lt_of_lt_of_le h.lt hb.size, h.below.trans (hb.mono h.below.size)⟩
theorem PZ.drew {w W : World} {a b : Nat} (h : PZ w a b W) : PZ w a b W.drew := h.kept (Below.refl _ _).drew
theorem PZ.start (w : World) (a b : Nat) : PZ w a b (w.alloc (.cells #[.int .i64 (a : Int), .int .i64 (b : Int)] 75)) :=
  ⟨by simp [go_sem], by simp [go_sem], by simp [go_sem], by simp [go_sem], by simp, (Below.refl _ _).alloc (Nat.le_refl _) _⟩
theorem PZ.put {w W : World} {a b : Nat} (h : PZ w a b W) (x y : Nat) : PZ w x y ((W.setCell ⟨w.heap.size, 0, none⟩ (.int .i64 (x : Int))).setCell ⟨w.heap.size, 1, none⟩ (.int .i64 (y : Int))) :=
  ⟨(World.cell?_setCell_other _ _ _ _ (by simp)).trans (World.cell?_setCell_same' _ _ _ (by rw [h.r0]; rfl)), World.cell?_setCell_same' _ _ _ (by rw [World.cell?_setCell_other _ _ _ _ (by simp), h.r1]; rfl),
    by rw [World.frozen?_setCell, World.frozen?_setCell]; exact h.f0, by rw [World.frozen?_setCell, World.frozen?_setCell]; exact h.f1, by simpa [World.setCell] using h.lt,
    (h.below.setCell (p := ⟨w.heap.size, 0, none⟩) (Nat.le_refl _) _).setCell (p := ⟨w.heap.size, 1, none⟩) (Nat.le_refl _) _⟩
def fanOk (n k : Int) : Bool := inBd 0 8 n && inBd 0 4 k
def fanV (n k : Int) : Int := if fanOk n k = true then ((fanN n.toNat k.toNat : Nat) : Int) else 0
theorem smR_of {r : Nat × Nat} (h : smR r = true) : (1 ≤ r.1 ∧ r.1 ≤ 100000000000) ∧ 1 ≤ r.2 ∧ r.2 ≤ 100000000000 := by
  unfold smR at h
  simp only [Bool.and_eq_true, decide_eq_true_eq] at h
  exact ⟨⟨h.1, h.2.1⟩, h.2.2.1, h.2.2.2⟩
theorem okJ_sm {k i c j : Nat} {r : Nat × Nat} (h : okJ k i c j r = true) : smR r = true := by
  cases c with
  | zero => exact h
  | succ c => exact (Bool.and_eq_true _ _ ▸ h).1
theorem okJ_step {k i c j : Nat} {r : Nat × Nat} (h : okJ k i (c + 1) j r = true) : okJ k i c (j + 1) (tms r (i + j + 2 * k) (i + j)) = true := (Bool.and_eq_true _ _ ▸ h).2
theorem okI_step {n k c i : Nat} {r : Nat × Nat} (h : okI n k (c + 1) i r = true) : okJ k i (n - i) i r = true ∧ okI n k c (i + 1) (fnJ k i (n - i) i r) = true := Bool.and_eq_true _ _ ▸ h
theorem fan_at {n k : Nat} (hn : n ≤ 8) (hk : k ≤ 4) : okI n k (n - 1) 1 (1, 1) = true := by
  have h := List.all_eq_true.mp fan_ok n (List.mem_range.mpr (by omega))
  exact List.all_eq_true.mp h k (List.mem_range.mpr (by omega))
set_option maxRecDepth 100000 in
set_option maxHeartbeats 4000000 in
theorem specCountFans_ret (n k : Int) (w : World) : Calls Try.prog 26 #[.int .i64 n, .int .i64 k] w (Ret w (.tuple #[.int .i64 (fanV n k), .bool (fanOk n k)])) := by
  have H1 : Hid (∀ w, Calls Try.prog 47 #[.int .i64 n, .int .i64 0, .int .i64 8] w fun e w' => e = .returned (.bool (inBd 0 8 n)) ∧ w = w') := Lib.hid fun w => in_any n 0 8 w
  have H2 : Hid (∀ w, Calls Try.prog 47 #[.int .i64 k, .int .i64 0, .int .i64 4] w fun e w' => e = .returned (.bool (inBd 0 4 k)) ∧ w = w') := Lib.hid fun w => in_any k 0 4 w
  rcases Bool.eq_false_or_eq_true (inBd 0 8 n) with a1 | a1
  case inr =>
    have hok : fanOk n k = false := by unfold fanOk; rw [a1]; rfl
    have e1 : fanV n k = 0 := by unfold fanV; rw [hok]; rfl
    rw [hok, e1]
    rw [a1] at H1
    clear hok e1 a1
    go_enter Try.func26, Try.ntmps26
    go_wp2_with fail
    refine (H1.out _).mono ?_
    rintro e w' ⟨rfl, rfl⟩
    go_wp2_with fail
    go_ret2
    exact ⟨rfl, Below.refl _ _⟩
  have hn : 0 ≤ n ∧ n ≤ 8 := by unfold inBd at a1; simpa only [Bool.and_eq_true, decide_eq_true_eq] using a1
  rcases Bool.eq_false_or_eq_true (inBd 0 4 k) with a2 | a2
  case inr =>
    have hok : fanOk n k = false := by unfold fanOk; rw [a1, a2]; rfl
    have e1 : fanV n k = 0 := by unfold fanV; rw [hok]; rfl
    rw [hok, e1]
    rw [a1] at H1
    rw [a2] at H2
    clear hok e1 a1 a2
    go_enter Try.func26, Try.ntmps26
    go_wp2_with fail
    refine (H1.out _).mono ?_
    rintro e w' ⟨rfl, rfl⟩
    go_wp2_with fail
    refine (H2.out _).mono ?_
    rintro e w' ⟨rfl, rfl⟩
    go_wp2_with fail
    go_ret2
    exact ⟨rfl, Below.refl _ _⟩
  have hk : 0 ≤ k ∧ k ≤ 4 := by unfold inBd at a2; simpa only [Bool.and_eq_true, decide_eq_true_eq] using a2
  have hok : fanOk n k = true := by unfold fanOk; rw [a1, a2]; rfl
  have e1 : fanV n k = ((fanN n.toNat k.toNat : Nat) : Int) := by unfold fanV; rw [if_pos hok]
  rw [hok, e1]
  rw [a1] at H1
  rw [a2] at H2
  clear hok e1 a1 a2
  obtain ⟨N, rfl⟩ := Int.eq_ofNat_of_zero_le hn.1
  obtain ⟨K, rfl⟩ := Int.eq_ofNat_of_zero_le hk.1
  simp only [Int.toNat_natCast]
  have hN : N ≤ 8 := by omega
  have hK : K ≤ 4 := by omega
  clear hn hk
  have HOK := Lib.hid (fan_at hN hK)
  obtain ⟨R, hR⟩ : ∃ R, fnI N K (N - 1) 1 (1, 1) = R := ⟨_, rfl⟩
  rw [show fanN N K = R.1 by unfold fanN; rw [hR]]
  have HR := Lib.hid hR
  clear hR
  have HZ := Lib.hid (PZ.start w 1 1)
  have c0 := HZ.out.r0
  have c1 := HZ.out.r1
  have c2 := HZ.out.f0
  have c3 := HZ.out.f1
  go_enter Try.func26, Try.ntmps26
  go_wp2_with fail
  refine (H1.out _).mono ?_
  rintro e w' ⟨rfl, rfl⟩
  go_wp2_with fail
  refine (H2.out _).mono ?_
  rintro e w' ⟨rfl, rfl⟩
  go_wp2_with fail
  clear c0 c1 c2 c3
  go_loopw [7] (fun i wr => ∃ (I c : Nat) (r : Nat × Nat), i = .int .i64 (I : Int) ∧ 1 ≤ I ∧ c = N - I ∧ fnI N K c I r = R ∧ okI N K c I r = true ∧ PZ w r.1 r.2 wr) (fun i _ => N - (intOf i).toNat)
  case atStart => exact ⟨1, N - 1, (1, 1), rfl, Nat.le_refl _, rfl, HR.out, HOK.out, HZ.out⟩
  case round =>
    obtain ⟨I, c, r, rfl, hI, hc, hfn, hok, hz⟩ := hrel
    clear HZ
    by_cases hlt : I < N
    · obtain ⟨c', rfl⟩ : ∃ c', c = c' + 1 := ⟨c - 1, by omega⟩
      have i1 : (I : Int) < (N : Int) := by omega
      have HK1 := Lib.hid (okI_step hok).1
      have HK2 := Lib.hid (okI_step hok).2
      have hfn2 : fnI N K c' (I + 1) (fnJ K I (N - I) I r) = R := hfn
      have HFN := Lib.hid hfn2
      have HZ := Lib.hid hz
      have hc' : c' = N - (I + 1) := by omega
      clear hok hfn hfn2 hz hc
      go_wp2_with fail
      go_loopw [8] (fun j wq => ∃ (J d : Nat) (s : Nat × Nat), j = .int .i64 (J : Int) ∧ I ≤ J ∧ J ≤ N ∧ d = N - J ∧ fnJ K I d J s = fnJ K I (N - I) I r ∧ okJ K I d J s = true ∧ PZ w s.1 s.2 wq) (fun j _ => N - (intOf j).toNat)
      case atStart => exact ⟨I, N - I, r, rfl, Nat.le_refl _, by omega, rfl, rfl, HK1.out, HZ.out⟩
      case round =>
        obtain ⟨J, d, q, rfl, hJ, hJN, hd, hfj, hoj, hz⟩ := hrel
        clear HZ
        by_cases hlj : J < N
        · obtain ⟨d', rfl⟩ : ∃ d', d = d' + 1 := ⟨d - 1, by omega⟩
          have i2 : (J : Int) < (N : Int) := by omega
          obtain ⟨a, b⟩ := q
          have hsm := smR_of (okJ_sm hoj)
          have HOJ := Lib.hid (okJ_step hoj)
          have HT : Hid (∀ w, Calls Try.prog 52 #[.agg #[.int .i64 (a : Int), .int .i64 (b : Int)], .int .i64 ((I : Int) + (J : Int) + 2 * (K : Int)), .int .i64 ((I : Int) + (J : Int))] w (Ret w (.agg #[.int .i64 (((tms (a, b) (I + J + 2 * K) (I + J)).1 : Nat) : Int), .int .i64 (((tms (a, b) (I + J + 2 * K) (I + J)).2 : Nat) : Int)]))) := Lib.hid fun w => by
            rw [show (I : Int) + (J : Int) + 2 * (K : Int) = ((I + J + 2 * K : Nat) : Int) by omega, show (I : Int) + (J : Int) = ((I + J : Nat) : Int) by omega]
            exact times_any a b (I + J + 2 * K) (I + J) w hsm.1 hsm.2 (by omega) (by omega)
          have hfj2 : fnJ K I d' (J + 1) (tms (a, b) (I + J + 2 * K) (I + J)) = fnJ K I (N - I) I r := hfj
          have HFJ := Lib.hid hfj2
          have hd' : d' = N - (J + 1) := by omega
          generalize tms (a, b) (I + J + 2 * K) (I + J) = u at *
          obtain ⟨x, y⟩ := u
          have HZ := Lib.hid hz
          have c0 := HZ.out.r0
          have c1 := HZ.out.r1
          clear hsm hoj hfj hfj2 hz hd
          go_wp2_with (go_at_call 52; refine (HT.out _).mono ?_; rintro e wt ⟨rfl, hbt⟩; have hz2 := HZ.out.kept hbt; clear c0 c1; have c0 := hz2.r0; have c1 := hz2.r1; have c2 := hz2.f0; have c3 := hz2.f1; have HZ2 := Lib.hid (hz2.put x y); clear hz2)
          go_roundw
          case rel => exact ⟨J + 1, d', (x, y), by go_num, by omega, by omega, hd', HFJ.out, HOJ.out, HZ2.out⟩
          case measure => first | (simp [intOf]; done) | (simp [intOf]; omega)
        · obtain rfl : J = N := by omega
          obtain rfl : d = 0 := by omega
          have hq : q = fnJ K I (J - I) I r := hfj
          subst hq
          have HZ := Lib.hid hz
          clear hz hfj hoj hd
          go_wp2_with fail
          go_roundw
          case rel => exact ⟨I + 1, c', fnJ K I (J - I) I r, by go_num, by omega, hc', HFN.out, HK2.out, HZ.out⟩
          case measure => first | (simp [intOf]; done) | (simp [intOf]; omega)
    · obtain rfl : c = 0 := by omega
      have i1 : ¬ (I : Int) < (N : Int) := by omega
      have hr : r = R := hfn
      subst hr
      have c0 := hz.r0
      have HZ := Lib.hid hz
      clear hz hfn hok hc
      go_wp2_with fail
      go_ret2
      exact ⟨rfl, HZ.out.below⟩
def cubOk (a b c : Int) : Bool := inBd 0 4 a && (inBd 0 4 b && inBd 0 4 c)
def cubV (a b c : Int) : Int := if cubOk a b c = true then ((cubeN a.toNat b.toNat c.toNat : Nat) : Int) else 0
theorem okK_sm {i j c k : Nat} {r : Nat × Nat} (h : okK i j c k r = true) : smR r = true := by
  cases c with
  | zero => exact h
  | succ c => exact (Bool.and_eq_true _ _ ▸ h).1
theorem okK_step {i j c k : Nat} {r : Nat × Nat} (h : okK i j (c + 1) k r = true) : okK i j c (k + 1) (tms r (i + j + k - 1) (i + j + k - 2)) = true := (Bool.and_eq_true _ _ ▸ h).2
theorem okCJ_step {i c q j : Nat} {r : Nat × Nat} (h : okCJ i c (q + 1) j r = true) : okK i j c 1 r = true ∧ okCJ i c q (j + 1) (cbK i j c 1 r) = true := Bool.and_eq_true _ _ ▸ h
theorem okCI_step {b c q i : Nat} {r : Nat × Nat} (h : okCI b c (q + 1) i r = true) : okCJ i c b 1 r = true ∧ okCI b c q (i + 1) (cbJ i c b 1 r) = true := Bool.and_eq_true _ _ ▸ h
theorem cube_at {a b c : Nat} (ha : a ≤ 4) (hb : b ≤ 4) (hc : c ≤ 4) : okCI b c a 1 (1, 1) = true := by
  have h := List.all_eq_true.mp cube_ok a (List.mem_range.mpr (by omega))
  have h2 := List.all_eq_true.mp h b (List.mem_range.mpr (by omega))
  exact List.all_eq_true.mp h2 c (List.mem_range.mpr (by omega))
set_option maxRecDepth 100000 in
set_option maxHeartbeats 4000000 in
theorem specCountCubes_ret (a b c : Int) (w : World) : Calls Try.prog 30 #[.int .i64 a, .int .i64 b, .int .i64 c] w (Ret w (.tuple #[.int .i64 (cubV a b c), .bool (cubOk a b c)])) := by
  have H1 : Hid (∀ w, Calls Try.prog 47 #[.int .i64 a, .int .i64 0, .int .i64 4] w fun e w' => e = .returned (.bool (inBd 0 4 a)) ∧ w = w') := Lib.hid fun w => in_any a 0 4 w
  have H2 : Hid (∀ w, Calls Try.prog 47 #[.int .i64 b, .int .i64 0, .int .i64 4] w fun e w' => e = .returned (.bool (inBd 0 4 b)) ∧ w = w') := Lib.hid fun w => in_any b 0 4 w
  have H3 : Hid (∀ w, Calls Try.prog 47 #[.int .i64 c, .int .i64 0, .int .i64 4] w fun e w' => e = .returned (.bool (inBd 0 4 c)) ∧ w = w') := Lib.hid fun w => in_any c 0 4 w
  rcases Bool.eq_false_or_eq_true (inBd 0 4 a) with a1 | a1
  case inr =>
    have hok : cubOk a b c = false := by unfold cubOk; rw [a1]; rfl
    have e1 : cubV a b c = 0 := by unfold cubV; rw [hok]; rfl
    rw [hok, e1]
    rw [a1] at H1
    clear hok e1 a1
    go_enter Try.func30, Try.ntmps30
    go_wp2_with fail
    refine (H1.out _).mono ?_
    rintro e w' ⟨rfl, rfl⟩
    go_wp2_with fail
    go_ret2
    exact ⟨rfl, Below.refl _ _⟩
  have ha : 0 ≤ a ∧ a ≤ 4 := by unfold inBd at a1; simpa only [Bool.and_eq_true, decide_eq_true_eq] using a1
  rcases Bool.eq_false_or_eq_true (inBd 0 4 b) with a2 | a2
  case inr =>
    have hok : cubOk a b c = false := by unfold cubOk; rw [a1, a2]; rfl
    have e1 : cubV a b c = 0 := by unfold cubV; rw [hok]; rfl
    rw [hok, e1]
    rw [a1] at H1
    rw [a2] at H2
    clear hok e1 a1 a2
    go_enter Try.func30, Try.ntmps30
    go_wp2_with fail
    refine (H1.out _).mono ?_
    rintro e w' ⟨rfl, rfl⟩
    go_wp2_with fail
    refine (H2.out _).mono ?_
    rintro e w' ⟨rfl, rfl⟩
    go_wp2_with fail
    go_ret2
    exact ⟨rfl, Below.refl _ _⟩
  have hb : 0 ≤ b ∧ b ≤ 4 := by unfold inBd at a2; simpa only [Bool.and_eq_true, decide_eq_true_eq] using a2
  rcases Bool.eq_false_or_eq_true (inBd 0 4 c) with a3 | a3
  case inr =>
    have hok : cubOk a b c = false := by unfold cubOk; rw [a1, a2, a3]; rfl
    have e1 : cubV a b c = 0 := by unfold cubV; rw [hok]; rfl
    rw [hok, e1]
    rw [a1] at H1
    rw [a2] at H2
    rw [a3] at H3
    clear hok e1 a1 a2 a3
    go_enter Try.func30, Try.ntmps30
    go_wp2_with fail
    refine (H1.out _).mono ?_
    rintro e w' ⟨rfl, rfl⟩
    go_wp2_with fail
    refine (H2.out _).mono ?_
    rintro e w' ⟨rfl, rfl⟩
    go_wp2_with fail
    refine (H3.out _).mono ?_
    rintro e w' ⟨rfl, rfl⟩
    go_wp2_with fail
    go_ret2
    exact ⟨rfl, Below.refl _ _⟩
  have hc : 0 ≤ c ∧ c ≤ 4 := by unfold inBd at a3; simpa only [Bool.and_eq_true, decide_eq_true_eq] using a3
  have hok : cubOk a b c = true := by unfold cubOk; rw [a1, a2, a3]; rfl
  have e1 : cubV a b c = ((cubeN a.toNat b.toNat c.toNat : Nat) : Int) := by unfold cubV; rw [if_pos hok]
  rw [hok, e1]
  rw [a1] at H1
  rw [a2] at H2
  rw [a3] at H3
  clear hok e1 a1 a2 a3
  obtain ⟨A, rfl⟩ := Int.eq_ofNat_of_zero_le ha.1
  obtain ⟨B, rfl⟩ := Int.eq_ofNat_of_zero_le hb.1
  obtain ⟨C, rfl⟩ := Int.eq_ofNat_of_zero_le hc.1
  simp only [Int.toNat_natCast]
  have hA : A ≤ 4 := by omega
  have hB : B ≤ 4 := by omega
  have hC : C ≤ 4 := by omega
  clear ha hb hc
  have HOK := Lib.hid (cube_at hA hB hC)
  obtain ⟨R, hR⟩ : ∃ R, cbI B C A 1 (1, 1) = R := ⟨_, rfl⟩
  rw [show cubeN A B C = R.1 by unfold cubeN; rw [hR]]
  have HR := Lib.hid hR
  clear hR
  have HZ := Lib.hid (PZ.start w 1 1)
  have c0 := HZ.out.r0
  have c1 := HZ.out.r1
  have c2 := HZ.out.f0
  have c3 := HZ.out.f1
  go_enter Try.func30, Try.ntmps30
  go_wp2_with fail
  refine (H1.out _).mono ?_
  rintro e w' ⟨rfl, rfl⟩
  go_wp2_with fail
  refine (H2.out _).mono ?_
  rintro e w' ⟨rfl, rfl⟩
  go_wp2_with fail
  refine (H3.out _).mono ?_
  rintro e w' ⟨rfl, rfl⟩
  go_wp2_with fail
  clear c0 c1 c2 c3 H1 H2 H3
  go_loopw [9] (fun i wr => ∃ (I n : Nat) (r : Nat × Nat), i = .int .i64 (I : Int) ∧ 1 ≤ I ∧ I ≤ A + 1 ∧ n = A + 1 - I ∧ cbI B C n I r = R ∧ okCI B C n I r = true ∧ PZ w r.1 r.2 wr) (fun i _ => A + 1 - (intOf i).toNat)
  case atStart => exact ⟨1, A, (1, 1), rfl, Nat.le_refl _, by omega, by omega, HR.out, HOK.out, HZ.out⟩
  case round =>
    obtain ⟨I, n, r, rfl, hI, hIA, hn, hfn, hok, hz⟩ := hrel
    clear HZ
    by_cases hlt : I ≤ A
    · obtain ⟨n', rfl⟩ : ∃ n', n = n' + 1 := ⟨n - 1, by omega⟩
      have i1 : (I : Int) ≤ (A : Int) := by omega
      have HK1 := Lib.hid (okCI_step hok).1
      have HK2 := Lib.hid (okCI_step hok).2
      have hfn2 : cbI B C n' (I + 1) (cbJ I C B 1 r) = R := hfn
      have HFN := Lib.hid hfn2
      have HZ := Lib.hid hz
      have hn' : n' = A + 1 - (I + 1) := by omega
      clear hok hfn hfn2 hz hn
      go_wp2_with fail
      go_loopw [10] (fun j wq => ∃ (J d : Nat) (s : Nat × Nat), j = .int .i64 (J : Int) ∧ 1 ≤ J ∧ J ≤ B + 1 ∧ d = B + 1 - J ∧ cbJ I C d J s = cbJ I C B 1 r ∧ okCJ I C d J s = true ∧ PZ w s.1 s.2 wq) (fun j _ => B + 1 - (intOf j).toNat)
      case atStart => exact ⟨1, B, r, rfl, Nat.le_refl _, by omega, by omega, rfl, HK1.out, HZ.out⟩
      case round =>
        obtain ⟨J, d, q, rfl, hJ, hJB, hd, hfj, hoj, hz⟩ := hrel
        clear HZ
        by_cases hlj : J ≤ B
        · obtain ⟨d', rfl⟩ : ∃ d', d = d' + 1 := ⟨d - 1, by omega⟩
          have i2 : (J : Int) ≤ (B : Int) := by omega
          have HL1 := Lib.hid (okCJ_step hoj).1
          have HL2 := Lib.hid (okCJ_step hoj).2
          have hfj2 : cbJ I C d' (J + 1) (cbK I J C 1 q) = cbJ I C B 1 r := hfj
          have HFJ := Lib.hid hfj2
          have HZ := Lib.hid hz
          have hd' : d' = B + 1 - (J + 1) := by omega
          clear hoj hfj hfj2 hz hd
          go_wp2_with fail
          go_loopw [11] (fun k wq => ∃ (K m : Nat) (s : Nat × Nat), k = .int .i64 (K : Int) ∧ 1 ≤ K ∧ K ≤ C + 1 ∧ m = C + 1 - K ∧ cbK I J m K s = cbK I J C 1 q ∧ okK I J m K s = true ∧ PZ w s.1 s.2 wq) (fun k _ => C + 1 - (intOf k).toNat)
          case atStart => exact ⟨1, C, q, rfl, Nat.le_refl _, by omega, by omega, rfl, HL1.out, HZ.out⟩
          case round =>
            obtain ⟨K, m, p, rfl, hK, hKC, hm, hfk, hko, hz⟩ := hrel
            clear HZ
            by_cases hlk : K ≤ C
            · obtain ⟨m', rfl⟩ : ∃ m', m = m' + 1 := ⟨m - 1, by omega⟩
              have i3 : (K : Int) ≤ (C : Int) := by omega
              obtain ⟨x, y⟩ := p
              have hsm := smR_of (okK_sm hko)
              have HKO := Lib.hid (okK_step hko)
              have HT : Hid (∀ w, Calls Try.prog 52 #[.agg #[.int .i64 (x : Int), .int .i64 (y : Int)], .int .i64 ((I : Int) + (J : Int) + (K : Int) - 1), .int .i64 ((I : Int) + (J : Int) + (K : Int) - 2)] w (Ret w (.agg #[.int .i64 (((tms (x, y) (I + J + K - 1) (I + J + K - 2)).1 : Nat) : Int), .int .i64 (((tms (x, y) (I + J + K - 1) (I + J + K - 2)).2 : Nat) : Int)]))) := Lib.hid fun w => by
                rw [show (I : Int) + (J : Int) + (K : Int) - 1 = ((I + J + K - 1 : Nat) : Int) by omega, show (I : Int) + (J : Int) + (K : Int) - 2 = ((I + J + K - 2 : Nat) : Int) by omega]
                exact times_any x y (I + J + K - 1) (I + J + K - 2) w hsm.1 hsm.2 (by omega) (by omega)
              have hfk2 : cbK I J m' (K + 1) (tms (x, y) (I + J + K - 1) (I + J + K - 2)) = cbK I J C 1 q := hfk
              have HFK := Lib.hid hfk2
              have hm' : m' = C + 1 - (K + 1) := by omega
              generalize tms (x, y) (I + J + K - 1) (I + J + K - 2) = u at *
              obtain ⟨s, t⟩ := u
              have HZ := Lib.hid hz
              have c0 := HZ.out.r0
              have c1 := HZ.out.r1
              clear hsm hko hfk hfk2 hz hm
              go_wp2_with (go_at_call 52; refine (HT.out _).mono ?_; rintro e wt ⟨rfl, hbt⟩; have hz2 := HZ.out.kept hbt; clear c0 c1; have c0 := hz2.r0; have c1 := hz2.r1; have c2 := hz2.f0; have c3 := hz2.f1; have HZ2 := Lib.hid (hz2.put s t); clear hz2)
              go_roundw
              case rel => exact ⟨K + 1, m', (s, t), by go_num, by omega, by omega, hm', HFK.out, HKO.out, HZ2.out⟩
              case measure => first | (simp [intOf]; done) | (simp [intOf]; omega)
            · obtain rfl : K = C + 1 := by omega
              obtain rfl : m = 0 := by omega
              have hq : p = cbK I J C 1 q := hfk
              subst hq
              have i3 : ¬ (C : Int) + 1 ≤ (C : Int) := by omega
              have HZ := Lib.hid hz
              clear hz hfk hko hm
              go_wp2_with fail
              go_roundw
              case rel => exact ⟨J + 1, d', cbK I J C 1 q, by go_num, by omega, by omega, hd', HFJ.out, HL2.out, HZ.out⟩
              case measure => first | (simp [intOf]; done) | (simp [intOf]; omega)
        · obtain rfl : J = B + 1 := by omega
          obtain rfl : d = 0 := by omega
          have hq : q = cbJ I C B 1 r := hfj
          subst hq
          have i3 : ¬ (B : Int) + 1 ≤ (B : Int) := by omega
          have HZ := Lib.hid hz
          clear hz hfj hoj hd
          go_wp2_with fail
          go_roundw
          case rel => exact ⟨I + 1, n', cbJ I C B 1 r, by go_num, by omega, by omega, hn', HFN.out, HK2.out, HZ.out⟩
          case measure => first | (simp [intOf]; done) | (simp [intOf]; omega)
    · obtain rfl : I = A + 1 := by omega
      obtain rfl : n = 0 := by omega
      have i1 : ¬ (A : Int) + 1 ≤ (A : Int) := by omega
      have hr : r = R := hfn
      subst hr
      have c0 := hz.r0
      have HZ := Lib.hid hz
      clear hz hfn hok hn
      go_wp2_with fail
      go_ret2
      exact ⟨rfl, HZ.out.below⟩
end Go.Proofs.Ytmfcknlpbliehab

/- Margins of a path, the first one that is too small, as plain numbers. -/
namespace Go.Proofs.Ytmfcknlpbliehab
open Go.RowKit

/-- the first n values of f -/
def fr (f : Nat → Int) (n : Nat) : List Int := (List.range n).map f
theorem fr_length (f : Nat → Int) (n : Nat) : (fr f n).length = n := by simp [fr]
theorem fr_get (f : Nat → Int) (n k : Nat) (h : k < n) : (fr f n).getD k 0 = f k := by
  unfold fr; rw [List.getD_eq_getElem?_getD, List.getElem?_map, List.getElem?_range h]; rfl
theorem fr_snoc (f : Nat → Int) (n : Nat) : fr f n ++ [f n] = fr f (n + 1) := by
  unfold fr; rw [List.range_succ, List.map_append]; rfl
/-- the first k of n laid, the rest 0 -/
def fil (f : Nat → Int) (n k : Nat) : List Int := (List.range n).map fun j => if j < k then f j else 0
theorem fil_length (f : Nat → Int) (n k : Nat) : (fil f n k).length = n := by simp [fil]
theorem fil_get (f : Nat → Int) (n k j : Nat) (h : j < n) : (fil f n k).getD j 0 = if j < k then f j else 0 := by
  unfold fil; rw [List.getD_eq_getElem?_getD, List.getElem?_map, List.getElem?_range h]; rfl
theorem fil_zero (f : Nat → Int) (n : Nat) : fil f n 0 = List.replicate n 0 := by
  apply List.ext_getElem
  · simp [fil]
  · intro i h1 h2
    simp [fil]
theorem fil_set (f : Nat → Int) (n k : Nat) : (fil f n k).set k (f k) = fil f n (k + 1) := by
  apply List.ext_getElem
  · simp [fil]
  · intro i h1 h2
    simp [fil, List.getElem_set]
    by_cases e : k = i
    · subst e; simp
    · rw [if_neg e]
      by_cases e2 : i < k
      · rw [if_pos e2, if_pos (by omega)]
      · rw [if_neg e2, if_neg (by omega)]
theorem fil_full (f : Nat → Int) (n : Nat) : fil f n n = fr f n := by
  unfold fil fr
  apply List.map_congr_left
  intro j hj
  rw [if_pos (List.mem_range.1 hj)]
theorem fil_one (f : Nat → Int) (n : Nat) (h : f 0 = 0) : fil f n 0 = fil f n 1 := by
  unfold fil
  apply List.map_congr_left
  intro j hj
  by_cases e : j < 1
  · rw [if_neg (by omega), if_pos e, show j = 0 by omega, h]
  · rw [if_neg (by omega), if_neg e]

def stepK (k x : Int) : Int := if x = 85 then 1 else -k
theorem stepK_u {k x : Int} (h : x = 85) : stepK k x = 1 := by unfold stepK; rw [if_pos h]
theorem stepK_d {k x : Int} (h : x ≠ 85) : stepK k x = -k := by unfold stepK; rw [if_neg h]
/-- the margin behind j steps -/
def mg (s : ByteArray) (k : Int) (j : Nat) : Int := ((s.data.toList.take j).map fun c => stepK k (c.toNat : Int)).sum
theorem mg_zero (s : ByteArray) (k : Int) : mg s k 0 = 0 := by simp [mg]
theorem mg_succ (s : ByteArray) (k : Int) (j : Nat) (h : j < s.size) : mg s k (j + 1) = mg s k j + stepK k (s[j].toNat : Int) := by
  unfold mg; rw [take_snoc s j h]; simp
theorem mg_bd (s : ByteArray) (k : Int) (hk : 1 ≤ k ∧ k ≤ 5) : ∀ j, j ≤ s.size → -(5 * (j : Int)) ≤ mg s k j ∧ mg s k j ≤ j := by
  intro j
  induction j with
  | zero => intro _; rw [mg_zero]; omega
  | succ j ih =>
    intro h
    have h1 := ih (by omega)
    rw [mg_succ s k j (by omega)]
    unfold stepK
    split <;> omega
def inK (k : Int) : Bool := decide (1 ≤ k) && decide (k ≤ 5)
theorem inK_yes {k : Int} (h : 1 ≤ k ∧ k ≤ 5) : inK k = true := by simp [inK, h]
theorem inK_no {k : Int} (h : ¬ (1 ≤ k ∧ k ≤ 5)) : inK k = false := by
  rw [Bool.eq_false_iff]; intro e; simp [inK] at e; exact h e
theorem inK_of {k : Int} (h : inK k = true) : 1 ≤ k ∧ k ≤ 5 := by simpa [inK] using h
def balOk (s : ByteArray) (k : Int) : Bool := pathB s && inK k
/-- all margins -/
def mgs (s : ByteArray) (k : Int) : List Int := fr (mg s k) (s.size + 1)

/-- the first of the indexes 1, .., n-1 at which f is less than a number, or -1 -/
def fb (f : Nat → Int) (least : Int) : Nat → Int
  | 0 => -1
  | n + 1 => if 0 ≤ fb f least n then fb f least n else if 0 < n ∧ f n < least then n else -1
theorem fb_bd (f : Nat → Int) (least : Int) : ∀ n : Nat, -1 ≤ fb f least n ∧ fb f least n ≤ n
  | 0 => by simp [fb]
  | n + 1 => by
    have := fb_bd f least n
    unfold fb
    split
    · omega
    · split <;> omega
theorem fb_go {f : Nat → Int} {least : Int} {n : Nat} (h : fb f least n = -1) (hn : n = 0 ∨ ¬ f n < least) : fb f least (n + 1) = -1 := by
  unfold fb; rw [if_neg (by omega), if_neg (by omega)]
theorem fb_hit {f : Nat → Int} {least : Int} {n : Nat} (h : fb f least n = -1) (hn : 0 < n) (hl : f n < least) : fb f least (n + 1) = n := by
  unfold fb; rw [if_neg (by omega), if_pos ⟨hn, hl⟩]
theorem fb_keep {f : Nat → Int} {least : Int} {n : Nat} (h : 0 ≤ fb f least n) : fb f least (n + 1) = fb f least n := by
  rw [fb, if_pos h]
theorem fb_stop {f : Nat → Int} {least : Int} {n : Nat} (h : 0 ≤ fb f least n) : ∀ m, fb f least (n + m) = fb f least n
  | 0 => rfl
  | m + 1 => by
    have := fb_stop h m
    rw [← Nat.add_assoc, fb_keep (by omega), this]
theorem fb_end {f : Nat → Int} {least : Int} {k n : Nat} (h : fb f least k = -1) (hk : 0 < k) (hl : f k < least) (hn : k < n) : fb f least n = k := by
  have h1 := fb_hit h hk hl
  have h2 := fb_stop (f := f) (least := least) (n := k + 1) (by omega) (n - (k + 1))
  rw [show k + 1 + (n - (k + 1)) = n by omega] at h2
  omega
def fbV (f : Nat → Int) (least : Int) (n : Nat) : Int := if fb f least n < 0 then 0 else fb f least n
def fbB (f : Nat → Int) (least : Int) (n : Nat) : Bool := decide (0 ≤ fb f least n)
theorem fbV_no {f : Nat → Int} {least : Int} {n : Nat} (h : fb f least n = -1) : fbV f least n = 0 := by unfold fbV; rw [if_pos (by omega)]
theorem fbB_no {f : Nat → Int} {least : Int} {n : Nat} (h : fb f least n = -1) : fbB f least n = false := by unfold fbB; rw [decide_eq_false_iff_not]; omega
theorem fbV_yes {f : Nat → Int} {least : Int} {k n : Nat} (h : fb f least n = k) : fbV f least n = k := by unfold fbV; rw [if_neg (by omega), h]
theorem fbB_yes {f : Nat → Int} {least : Int} {k n : Nat} (h : fb f least n = k) : fbB f least n = true := by unfold fbB; rw [decide_eq_true_iff]; omega
/-- the indexes below n at which f is 0 -/
def zs (f : Nat → Int) : Nat → List Int
  | 0 => []
  | n + 1 => if f n = 0 then zs f n ++ [(n : Int)] else zs f n
theorem zs_length (f : Nat → Int) : ∀ n, (zs f n).length ≤ n
  | 0 => by simp [zs]
  | n + 1 => by
    have := zs_length f n
    unfold zs
    split
    · simp; omega
    · omega
theorem zs_yes {f : Nat → Int} {n : Nat} (h : (f n == 0) = true) : zs f (n + 1) = zs f n ++ [(n : Int)] := by
  rw [zs, if_pos (by simpa using h)]
theorem zs_no {f : Nat → Int} {n : Nat} (h : (f n == 0) = false) : zs f (n + 1) = zs f n := by
  rw [zs, if_neg (by simpa using h)]
/-- how many of the first n are above 0, below 0 -/
def abv (f : Nat → Int) : Nat → Nat
  | 0 => 0
  | n + 1 => if 0 < f n then abv f n + 1 else abv f n
def blw (f : Nat → Int) : Nat → Nat
  | 0 => 0
  | n + 1 => if f n < 0 then blw f n + 1 else blw f n
theorem abv_le (f : Nat → Int) : ∀ n, abv f n ≤ n
  | 0 => by simp [abv]
  | n + 1 => by have := abv_le f n; unfold abv; split <;> omega
theorem blw_le (f : Nat → Int) : ∀ n, blw f n ≤ n
  | 0 => by simp [blw]
  | n + 1 => by have := blw_le f n; unfold blw; split <;> omega
theorem abv_yes {f : Nat → Int} {n : Nat} (h : 0 < f n) : abv f (n + 1) = abv f n + 1 := by rw [abv, if_pos h]
theorem abv_no {f : Nat → Int} {n : Nat} (h : ¬ 0 < f n) : abv f (n + 1) = abv f n := by rw [abv, if_neg h]
theorem blw_yes {f : Nat → Int} {n : Nat} (h : f n < 0) : blw f (n + 1) = blw f n + 1 := by rw [blw, if_pos h]
theorem blw_no {f : Nat → Int} {n : Nat} (h : ¬ f n < 0) : blw f (n + 1) = blw f n := by rw [blw, if_neg h]

theorem kmul_bd {k x : Int} (h1 : 1 ≤ k) (h5 : k ≤ 5) (h0 : 0 ≤ x) (h40 : x ≤ 40) : 0 ≤ k * x ∧ k * x ≤ 200 := by
  refine ⟨Int.mul_nonneg (by omega) h0, ?_⟩
  have := Int.mul_le_mul h5 h40 h0 (by omega)
  omega
/-! ### how many are ahead -/
/-- the number of paths that are always ahead, out of all of them -/
def aheadN (all a b k : Int) : Int := if a < k * b then 0 else if a + b = 0 then 1 else all * (a - k * b) / (a + b)
def neverN (all a b k : Int) : Int := if a < k * b then 0 else all * (a + 1 - k * b) / (a + 1)
end Go.Proofs.Ytmfcknlpbliehab

/- Ways over a grid: their cells, told by how many steps have been made. -/
namespace Go.Proofs.Ytmfcknlpbliehab
open Go.RowKit
set_option linter.unusedVariables false
def cellB (x y : Int) : Bool := inBd 0 12 x && inBd 0 12 y
theorem cellB_iff (x y : Int) : cellB x y = true ↔ (0 ≤ x ∧ x ≤ 12) ∧ 0 ≤ y ∧ y ≤ 12 := by
  unfold cellB inBd
  simp only [Bool.and_eq_true, decide_eq_true_eq]
/-- the step at k, as a number -/
def bt (s : ByteArray) (k : Nat) : Int := if h : k < s.size then ((s[k]).toNat : Int) else 0
theorem bt_at (s : ByteArray) {k : Nat} (h : k < s.size) : bt s k = ((s[k]).toNat : Int) := by unfold bt; rw [dif_pos h]
def cX (s : ByteArray) (x : Int) : Nat → Int
  | 0 => x
  | k + 1 => cX s x k + (if bt s k = 69 then 1 else 0)
def cY (s : ByteArray) (y : Int) : Nat → Int
  | 0 => y
  | k + 1 => cY s y k + (if bt s k = 78 then 1 else 0)
/-- the first k steps are good and come to cells -/
def okW (s : ByteArray) (x y : Int) : Nat → Bool
  | 0 => true
  | k + 1 => okW s x y k && ((bt s k == 69 || bt s k == 78) && cellB (cX s x (k + 1)) (cY s y (k + 1)))
theorem okW_le {s : ByteArray} {x y : Int} {k : Nat} : ∀ {n : Nat}, okW s x y n = true → k ≤ n → okW s x y k = true
  | 0, h, hk => by rw [show k = 0 by omega]; exact h
  | n + 1, h, hk => by
    by_cases e : k = n + 1
    · rw [e]; exact h
    · have h1 : okW s x y n = true := by
        unfold okW at h
        rw [Bool.and_eq_true] at h
        exact h.1
      exact okW_le h1 (by omega)
theorem okW_no {s : ByteArray} {x y : Int} {k n : Nat} (h : okW s x y k = false) (hk : k ≤ n) : okW s x y n = false := by
  cases e : okW s x y n with
  | false => rfl
  | true => rw [okW_le e hk] at h; cases h
def wayB (x y : Int) (s : ByteArray) : Bool := (cellB x y && decide (s.size ≤ 24)) && okW s x y s.size
theorem wayB_of {x y : Int} {s : ByteArray} (h : wayB x y s = true) : cellB x y = true ∧ s.size ≤ 24 ∧ okW s x y s.size = true := by
  unfold wayB at h
  rw [Bool.and_eq_true, Bool.and_eq_true, decide_eq_true_eq] at h
  exact ⟨h.1.1, h.1.2, h.2⟩
/-- the cells behind at most k steps, one behind the other: X, Y, X, Y, .. -/
def clF (s : ByteArray) (x y : Int) (k : Nat) : List Int := fr (fun c => if c % 2 = 0 then cX s x (c / 2) else cY s y (c / 2)) ((k + 1) * 2)
theorem clF_len (s : ByteArray) (x y : Int) (k : Nat) : (clF s x y k).length = (k + 1) * 2 := fr_length _ _
theorem clF_zero (s : ByteArray) (x y : Int) : clF s x y 0 = [x, y] := by
  unfold clF fr
  simp [List.range_succ, cX, cY]
theorem clF_snoc (s : ByteArray) (x y : Int) (k : Nat) : clF s x y k ++ [cX s x (k + 1), cY s y (k + 1)] = clF s x y (k + 1) := by
  unfold clF
  rw [show (k + 1 + 1) * 2 = (k + 1) * 2 + 1 + 1 by omega, ← fr_snoc, ← fr_snoc]
  rw [if_pos (by omega), if_neg (by omega), show (k + 1) * 2 / 2 = k + 1 by omega, show ((k + 1) * 2 + 1) / 2 = k + 1 by omega, List.append_assoc]
  rfl
theorem clF_x (s : ByteArray) (x y : Int) {k j : Nat} (h : j ≤ k) : (clF s x y k).getD (j * 2) 0 = cX s x j := by
  unfold clF
  rw [fr_get _ _ _ (by omega), if_pos (by omega), show j * 2 / 2 = j by omega]
theorem clF_y (s : ByteArray) (x y : Int) {k j : Nat} (h : j ≤ k) : (clF s x y k).getD (j * 2 + 1) 0 = cY s y j := by
  unfold clF
  rw [fr_get _ _ _ (by omega), if_neg (by omega), show (j * 2 + 1) / 2 = j by omega]
theorem okW_cell {s : ByteArray} {x y : Int} {k : Nat} (h0 : cellB x y = true) (h : okW s x y k = true) : cellB (cX s x k) (cY s y k) = true := by
  cases k with
  | zero => exact h0
  | succ k =>
    unfold okW at h
    rw [Bool.and_eq_true, Bool.and_eq_true] at h
    exact h.2.2
end Go.Proofs.Ytmfcknlpbliehab
