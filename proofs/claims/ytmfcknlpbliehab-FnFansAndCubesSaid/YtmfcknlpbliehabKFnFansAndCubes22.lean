/- Pack 22 of what FnFansAndCubes needs: AllS, FcL, FqMath. -/
import Derived.Test.YtmfcknlpbliehabKFnFansAndCubes21
import Derived.Deep.CutBlock
import Derived.Deep.DeepCutAuto
import Derived.Outline
/- The model's cyAll, AllTrees. -/
namespace Go.Proofs.Ytmfcknlpbliehab
open Go.RowKit
set_option linter.unusedVariables false
/-- [][]int{nil} -/
theorem TRow.litNil (w : World) : TRow (w.alloc (.cells #[.slice none 0 0] 24)) w.heap.size (w.alloc (.cells #[.slice none 0 0] 24)).heap.size (.slice (some ⟨w.heap.size, 0, none⟩) 1 1) [.slice none 0 0] [[]] := by
  have r2 : VRow (w.alloc (.cells #[.slice none 0 0] 24)) w.heap.size (.slice (some ⟨w.heap.size, 0, none⟩) 1 1) [.slice none 0 0] :=
    World.ownsRow_lit (base := w.heap.size) (e := 24) (size := 1) w #[.slice none 0 0] 1 (Nat.le_refl _) (by simp [maxLen]) rfl
  refine ⟨rfl, r2, fun k hk => (r2.blk k hk).2, fun j hj => ?_, fun j hj k hk => ?_, fun i j hi hj hne => ?_, fun j hj a b ha hb => ?_, Nat.le_refl _⟩
  · have : j = 0 := by simpa using hj
    subst this
    exact IRow.nil _ _
  · have : j = 0 := by simpa using hj
    subst this
    cases hk
  · simp at hi hj; omega
  · have : j = 0 := by simpa using hj
    subst this
    cases hb
/-- the trees of n nodes -/
def allOk (n : Int) : Bool := decide (1 ≤ n ∧ n ≤ 7)
def allV (n : Int) : List (List Int) := if allOk n = true then allF n.toNat 1 else []
end Go.Proofs.Ytmfcknlpbliehab

/- The law on fans and cubes over the program's contracts. -/
namespace Go.Proofs.Ytmfcknlpbliehab
open Go.RowKit
set_option linter.unusedVariables false
theorem crow_rcels {w : World} {B n : Nat} {v : Value} {ts : List Int} (h : CRow w B v n ts) : RCels w v n ts := by
  refine CRow.rcels h (fun A k c e => ?_) (fun j hj => rfl)
  rcases h.1.2 with ⟨h1, h0⟩ | ⟨g, cap, cur, h1, _, _, h2, h3, _⟩
  · rw [h1] at e
    injection e with e1 e2 e3
    subst e2 e3
    unfold maxLen; omega
  · rw [h1] at e
    injection e with e1 e2 e3
    subst e2 e3
    exact ⟨h2, h3⟩
/-- the law's two lists of cells -/
structure Two (w : World) (a b c i : Nat) (v1 v2 : Value) (X : World) : Prop where
  r1 : CRow X w.heap.size v1 i (stC a i)
  r2 : CRow X w.heap.size v2 i (enC a b c i)
  ap : ∀ k, v1.ownBlock = some k → v2.ownBlock = some k → False
  bl : Below w.heap.size w X
theorem crow_keep {w w' : World} {B n : Nat} {v v2 : Value} {xs : List Int} (h : CRow w B v n xs) (hg : w.grownBy w' v2.ownBlock) (ap : ∀ k, v2.ownBlock = some k → v.ownBlock = some k → False) : CRow w' B v n xs :=
  ⟨World.ownsRow.kept h.1 hg (by
    cases e : v.ownBlock with
    | none => exact .inl rfl
    | some k =>
      right
      intro e2
      exact ap k e2.symm e), h.2⟩
theorem below_grown_own {w X X' : World} {v : Value} (hb : Below w.heap.size w X) (hg : X.grownBy X' v.ownBlock) (h : ∀ k, v.ownBlock = some k → w.heap.size ≤ k ∧ k < X.heap.size) : Below w.heap.size w X' :=
  hb.grown hg hb.size (fun j hj => (h j hj).1)
theorem fan_facts {n k : Int} (h : fanOk n k = true) : ∃ N K : Nat, n = (N : Int) ∧ k = (K : Int) ∧ N ≤ 8 ∧ K ≤ 4 ∧ fanV n k = ((fanN N K : Nat) : Int) ∧ fanT N K = true := by
  have h' := h
  unfold fanOk inBd at h
  simp only [Bool.and_eq_true, decide_eq_true_eq] at h
  obtain ⟨⟨a1, a2⟩, a3, a4⟩ := h
  obtain ⟨N, rfl⟩ : ∃ N : Nat, n = (N : Int) := ⟨n.toNat, by omega⟩
  obtain ⟨K, rfl⟩ : ∃ K : Nat, k = (K : Int) := ⟨k.toNat, by omega⟩
  refine ⟨N, K, rfl, rfl, by omega, by omega, ?_, ?_⟩
  · unfold fanV; rw [if_pos h', Int.toNat_natCast, Int.toNat_natCast]
  · exact List.all_eq_true.1 (List.all_eq_true.1 fan_all N (List.mem_range.2 (by omega))) K (List.mem_range.2 (by omega))
theorem cub_facts {a b c : Int} (h : cubOk a b c = true) : ∃ A B C : Nat, a = (A : Int) ∧ b = (B : Int) ∧ c = (C : Int) ∧ A ≤ 4 ∧ B ≤ 4 ∧ C ≤ 4 ∧ cubV a b c = ((cubeN A B C : Nat) : Int) ∧ cubT A B C = true := by
  have h' := h
  unfold cubOk inBd at h
  simp only [Bool.and_eq_true, decide_eq_true_eq] at h
  obtain ⟨⟨a1, a2⟩, ⟨a3, a4⟩, a5, a6⟩ := h
  obtain ⟨A, rfl⟩ : ∃ N : Nat, a = (N : Int) := ⟨a.toNat, by omega⟩
  obtain ⟨B, rfl⟩ : ∃ K : Nat, b = (K : Int) := ⟨b.toNat, by omega⟩
  obtain ⟨C, rfl⟩ : ∃ K : Nat, c = (K : Int) := ⟨c.toNat, by omega⟩
  refine ⟨A, B, C, rfl, rfl, rfl, by omega, by omega, by omega, ?_, ?_⟩
  · unfold cubV; rw [if_pos h', Int.toNat_natCast, Int.toNat_natCast, Int.toNat_natCast]
  · exact List.all_eq_true.1 (List.all_eq_true.1 (List.all_eq_true.1 cub_all A (List.mem_range.2 (by omega))) B (List.mem_range.2 (by omega))) C (List.mem_range.2 (by omega))
theorem fan_at1 {N K : Nat} (hN : N ≤ 8) (hK : K ≤ 4) : fanOk (N : Int) (K : Int) = true ∧ fanV (N : Int) (K : Int) = ((fanN N K : Nat) : Int) ∧ fanN N K ≤ 4000000000 := by
  have h : fanOk (N : Int) (K : Int) = true := by unfold fanOk inBd; simp only [Bool.and_eq_true, decide_eq_true_eq]; omega
  obtain ⟨N', K', e1, e2, _, _, h3, h4⟩ := fan_facts h
  obtain rfl : N = N' := by omega
  obtain rfl : K = K' := by omega
  refine ⟨h, h3, ?_⟩
  unfold fanT at h4
  simp only [Bool.and_eq_true, decide_eq_true_eq] at h4
  omega
theorem cub_at1 {A B C : Nat} (h1 : A ≤ 4) (h2 : B ≤ 4) (h3 : C ≤ 4) : cubOk (A : Int) (B : Int) (C : Int) = true ∧ cubV (A : Int) (B : Int) (C : Int) = ((cubeN A B C : Nat) : Int) := by
  have h : cubOk (A : Int) (B : Int) (C : Int) = true := by unfold cubOk inBd; simp only [Bool.and_eq_true, decide_eq_true_eq]; omega
  obtain ⟨A', B', C', e1, e2, e3, _, _, _, h4, _⟩ := cub_facts h
  obtain rfl : A = A' := by omega
  obtain rfl : B = B' := by omega
  obtain rfl : C = C' := by omega
  exact ⟨h, h4⟩
set_option maxRecDepth 100000 in
set_option maxHeartbeats 8000000 in
theorem wFans (hF : Hid (∀ (n k : Int) (w : World), Calls Try.prog 25 #[.int .i64 n, .int .i64 k] w (Ret w (.tuple #[.int .i64 (fanV n k), .bool (fanOk n k)]))))
    (hC : Hid (∀ (a b c : Int) (w : World), Calls Try.prog 29 #[.int .i64 a, .int .i64 b, .int .i64 c] w (Ret w (.tuple #[.int .i64 (cubV a b c), .bool (cubOk a b c)]))))
    (hT : Hid (∀ (m : Nat) (h1 : 1 ≤ m) (h7 : m ≤ 7) (w : World), Calls Try.prog 27 #[.int .i64 (m : Int)] w (TabsRet w true (allF m 1))))
    (hA : Hid (∀ (v1 v2 : Value) (n m : Nat) (xs ys : List Int) (w : World) (h1 : RCels w v1 n xs) (h2 : RCels w v2 m ys) (hn : n ≤ 1048576) (hm : m ≤ 1048576), Calls Try.prog 31 #[v1, v2] w (Ret w (.tuple #[.int .i64 (cpV n xs m ys), .bool (askC n xs m ys)]))))
    (a0 : Option Addr) (l0 c0 : Nat) (a1 : Option Addr) (l1 c1 : Nat) (w : World) (h0 : IsCode w a0 l0 c0) (h1 : IsCode w a1 l1 c1) :
    Calls Try.prog 4 #[.slice a0 l0 c0, .slice a1 l1 c1] w fun e w' => e = .returned (.bool true) ∧ Below w.heap.size w w' := by
  have HB := Lib.hid (bigAny a0 a1 l0 c0 l1 c1 w h0.2 h1.2)
  by_cases hbig : 1048576 < l0 + l1
  · rw [decide_eq_true hbig] at HB
    clear h0 h1
    go_enter Try.func4, Try.ntmps4
    go_wp2_with (go_at_call 5; refine HB.out.mono ?_; rintro e w' ⟨rfl, rfl⟩)
    go_ret
    exact ⟨rfl, Below.refl _ _⟩
  rw [decide_eq_false hbig] at HB
  have HD0 := Lib.hid (drawFans_any w a0 l0 c0 h0.1 (by omega))
  have HD1 : Hid (∀ W, Below w.heap.size w W → Calls Try.prog 28 #[.slice a1 l1 c1] W fun e w' => ∃ a b c : Int, e = .returned (.tuple #[.int .i64 a, .int .i64 b, .int .i64 c]) ∧ (Small a ∧ Small b ∧ Small c) ∧ Below W.heap.size W w') := Lib.hid fun W hb => drawCubes_any W a1 l1 c1 (h1.1.below hb) (by omega)
  have HSF : Hid (∀ (n k : Int) (w : World), Calls Try.prog 26 #[.int .i64 n, .int .i64 k] w (Ret w (.tuple #[.int .i64 (fanV n k), .bool (fanOk n k)]))) := Lib.hid specCountFans_ret
  have HSC : Hid (∀ (a b c : Int) (w : World), Calls Try.prog 30 #[.int .i64 a, .int .i64 b, .int .i64 c] w (Ret w (.tuple #[.int .i64 (cubV a b c), .bool (cubOk a b c)]))) := Lib.hid specCountCubes_ret
  clear h0 h1
  go_enter Try.func4, Try.ntmps4
  go_wp2_with (go_at_call 5; refine HB.out.mono ?_; rintro e w' ⟨rfl, rfl⟩)
  refine HD0.out.mono ?_
  rintro e w1 ⟨n, k, rfl, ⟨hn, hk⟩, hb1⟩
  have HB1 := Lib.hid hb1
  clear hb1 HD0 HB
  unfold Small at hn hk
  have HQ : Hid (fanOk n k = true → ∃ N K : Nat, n = (N : Int) ∧ k = (K : Int) ∧ N ≤ 8 ∧ K ≤ 4 ∧ fanV n k = ((fanN N K : Nat) : Int) ∧ fanT N K = true) := Lib.hid fan_facts
  go_upto_region 6 with (first
    | (go_at_call 25; refine (hF.out _ _ _).mono ?_; rintro e w2 ⟨rfl, hb2⟩; have HB2 := Lib.hid (HB1.out.trans (hb2.mono HB1.out.size)); clear hb2)
    | (go_at_call 26; refine (HSF.out _ _ _).mono ?_; rintro e w3 ⟨rfl, hb3⟩; have HB3 := Lib.hid (HB2.out.trans (hb3.mono HB2.out.size)); clear hb3))
  have HV1 : Hid (fanOk n k = true → (0 ≤ fanV n k ∧ fanV n k ≤ 4000000000) ∧ (k = 0 → fanV n k = 1) ∧ (n ≤ 1 → fanV n k = 1)) := Lib.hid fun h => by
    obtain ⟨N, K, rfl, rfl, h1, h2, h3, h4⟩ := HQ.out h
    rw [h3]
    unfold fanT at h4
    simp only [Bool.and_eq_true, Bool.or_eq_true, Bool.not_eq_true', beq_eq_false_iff_ne, beq_iff_eq, decide_eq_true_eq, decide_eq_false_iff_not] at h4
    refine ⟨by omega, fun e => ?_, fun e => ?_⟩
    · have := h4.1; omega
    · have := h4.2.1; omega
  have HT1 : Hid (fanOk n k = true ∧ k = 1 ∧ n ≤ 6 → ∀ w, Calls Try.prog 27 #[.int .i64 (n + 1)] w (fun e w' => ∃ (A : Option Addr) (c m : Nat), e = .returned (.tuple #[.slice A m c, .bool true]) ∧ (m : Int) = fanV n k ∧ Below w.heap.size w w')) := Lib.hid <| by
    rintro ⟨h, hk1, hn6⟩ w
    obtain ⟨N, K, rfl, rfl, h1, h2, h3, h4⟩ := HQ.out h
    rw [h3]
    unfold fanT at h4
    simp only [Bool.and_eq_true, Bool.or_eq_true, Bool.not_eq_true', beq_eq_false_iff_ne, beq_iff_eq, decide_eq_true_eq, decide_eq_false_iff_not, Bool.and_eq_false_iff] at h4
    have h5 : (allF (N + 1) 1).length = fanN N K := by
      rcases h4.2.2.1 with h5 | h5
      · omega
      · exact h5
    refine (hT.out (N + 1) (by omega) (by omega) w).mono ?_
    rintro e w' ⟨v, vs, rfl, ht, hb⟩
    obtain ⟨A, c, rfl⟩ := ht.out.shape
    exact ⟨A, c, _, rfl, by rw [ht.len, h5], hb⟩
  have HT2 : Hid (fanOk n k = true ∧ k = 2 ∧ 1 ≤ n ∧ n ≤ 5 → ∃ x y z : Int, (∀ w, Calls Try.prog 25 #[.int .i64 n, .int .i64 1] w (Ret w (.tuple #[.int .i64 x, .bool true]))) ∧ (∀ w, Calls Try.prog 25 #[.int .i64 (n + 1), .int .i64 1] w (Ret w (.tuple #[.int .i64 y, .bool true]))) ∧ (∀ w, Calls Try.prog 25 #[.int .i64 (n + 2), .int .i64 1] w (Ret w (.tuple #[.int .i64 z, .bool true]))) ∧ (0 ≤ x * z ∧ x * z ≤ 4000000000) ∧ (0 ≤ y * y ∧ y * y ≤ 4000000000) ∧ x * z - y * y = fanV n k) := Lib.hid <| by
    rintro ⟨h, hk1, hn1, hn5⟩
    obtain ⟨N, K, rfl, rfl, h1, h2, h3, h4⟩ := HQ.out h
    have hv := HV1.out h
    rw [h3] at hv ⊢
    unfold fanT at h4
    simp only [Bool.and_eq_true, Bool.or_eq_true, Bool.not_eq_true', beq_eq_false_iff_ne, beq_iff_eq, decide_eq_true_eq, decide_eq_false_iff_not, Bool.and_eq_false_iff] at h4
    have h5 : fanN N 1 * fanN (N + 2) 1 = fanN N K + fanN (N + 1) 1 * fanN (N + 1) 1 := by
      rcases h4.2.2.2.1 with h5 | h5
      · omega
      · exact h5
    have g0 := fan_at1 (N := N) (K := 1) (by omega) (by omega)
    have g1 := fan_at1 (N := N + 1) (K := 1) (by omega) (by omega)
    have g2 := fan_at1 (N := N + 2) (K := 1) (by omega) (by omega)
    have s1 : fanN (N + 1) 1 * fanN (N + 1) 1 ≤ 2000000000 := by
      have : N = 1 ∨ N = 2 ∨ N = 3 ∨ N = 4 ∨ N = 5 := by omega
      rcases this with e | e | e | e | e <;> subst e <;> decide +kernel
    have s2 : fanN N 1 * fanN (N + 2) 1 ≤ 4000000000 := by
      have : N = 1 ∨ N = 2 ∨ N = 3 ∨ N = 4 ∨ N = 5 := by omega
      rcases this with e | e | e | e | e <;> subst e <;> decide +kernel
    refine ⟨((fanN N 1 : Nat) : Int), ((fanN (N + 1) 1 : Nat) : Int), ((fanN (N + 2) 1 : Nat) : Int), fun w => ?_, fun w => ?_, fun w => ?_, ?_, ?_, ?_⟩
    · have := hF.out (N : Int) ((1 : Nat) : Int) w; rw [g0.1, g0.2.1] at this; exact this
    · have := hF.out ((N + 1 : Nat) : Int) ((1 : Nat) : Int) w; rw [g1.1, g1.2.1] at this; exact this
    · have := hF.out ((N + 2 : Nat) : Int) ((1 : Nat) : Int) w; rw [g2.1, g2.2.1] at this; exact this
    · rw [← Int.natCast_mul, h5]
      generalize fanN (N + 1) 1 * fanN (N + 1) 1 = q at *
      generalize fanN N K = r at *
      have : r + q ≤ 4000000000 := by rw [← h5]; exact s2
      omega
    · rw [← Int.natCast_mul]; omega
    · rw [← Int.natCast_mul, ← Int.natCast_mul, h5]
      generalize fanN (N + 1) 1 * fanN (N + 1) 1 = q at *
      omega
  clear HQ
  generalize fanV n k = V at *
  generalize fanOk n k = ok at *
  go_cut [81] from 55 to 81 (fun s wx => s = .bool false ∧ w3 = wx)
  case first =>
    cases ok with
    | false =>
      go_wp2_with fail
      go_meet
      exact ⟨rfl, rfl⟩
    | true =>
      obtain ⟨v1, v2, v3⟩ := HV1.out rfl
      by_cases e1 : k = 0
      · have e2 := v2 e1
        subst e1 e2
        clear v1 v2 v3
        by_cases e3 : n ≤ 1
        · go_wp2_with fail
          go_meet
          exact ⟨rfl, rfl⟩
        · have e4 : decide (n ≤ 1) = false := decide_eq_false e3
          go_wp2_with fail
          go_meet
          exact ⟨rfl, rfl⟩
      · have e2 : (k == 0) = false := by simp [e1]
        by_cases e3 : n ≤ 1
        · have e5 := v3 e3
          subst e5
          clear v1 v2 v3
          go_wp2_with fail
          go_meet
          exact ⟨rfl, rfl⟩
        · have e4 : decide (n ≤ 1) = false := decide_eq_false e3
          clear v2 v3
          go_wp2_with fail
          go_meet
          exact ⟨rfl, rfl⟩
  case rest =>
    obtain ⟨rfl, rfl⟩ := hcut
    go_upto_region 8 with fail
    go_cut [90] from 82 to 90 (fun s wx => s = .bool (decide (ok = true ∧ k = 1 ∧ n ≤ 6)) ∧ w3 = wx)
    case first =>
      cases ok with
      | false =>
        go_wp2_with fail
        go_meet
        exact ⟨by simp, rfl⟩
      | true =>
        by_cases e1 : k = 1
        · by_cases e3 : n ≤ 6
          · have e4 : decide (true = true ∧ k = 1 ∧ n ≤ 6) = true := decide_eq_true ⟨rfl, e1, e3⟩
            subst e1
            go_wp2_with fail
            go_meet
            exact ⟨by rw [e4], rfl⟩
          · have e4 : decide (true = true ∧ k = 1 ∧ n ≤ 6) = false := decide_eq_false fun h => e3 h.2.2
            have e5 : decide (n ≤ 6) = false := decide_eq_false e3
            subst e1
            go_wp2_with fail
            go_meet
            exact ⟨by rw [e4], rfl⟩
        · have e4 : decide (true = true ∧ k = 1 ∧ n ≤ 6) = false := decide_eq_false fun h => e1 h.2.1
          have e2 : (k == 1) = false := by simp [e1]
          go_wp2_with fail
          go_meet
          exact ⟨by rw [e4], rfl⟩
    case rest =>
    obtain ⟨rfl, rfl⟩ := hcut
    go_upto_if 90 with fail
    go_cut [4] from 11 to 104 (fun s wx => s = .bool false ∧ Below w.heap.size w wx)
    case first =>
      by_cases h8 : ok = true ∧ k = 1 ∧ n ≤ 6
      · have HT := Lib.hid (HT1.out h8)
        rw [decide_eq_true h8]
        have e1 := HV1.out h8.1
        have e2 := e1.1
        clear e1 HT1 HT2 h8
        go_wp2_with (go_at_call 27; refine (HT.out _).mono ?_; rintro e w4 ⟨A, c, m, rfl, hm, hb4⟩)
        go_meet
        exact ⟨rfl, HB3.out.trans (hb4.mono HB3.out.size)⟩
      · rw [decide_eq_false h8]
        clear h8
        go_wp2_with fail
        go_meet
        exact ⟨rfl, HB3.out⟩
    case rest =>
    obtain ⟨rfl, hbc⟩ := hcut
    have HB4 := Lib.hid hbc
    clear hbc HT1
    go_upto_region 12 with fail
    go_cut [117] from 105 to 117 (fun s wx => s = .bool (decide (ok = true ∧ k = 2 ∧ 1 ≤ n ∧ n ≤ 5)) ∧ wc = wx)
    case first =>
      cases ok with
      | false =>
        go_wp2_with fail
        go_meet
        exact ⟨by simp, rfl⟩
      | true =>
        by_cases e1 : k = 2
        · by_cases e3 : 1 ≤ n
          · by_cases e6 : n ≤ 5
            · have e4 : decide (true = true ∧ k = 2 ∧ 1 ≤ n ∧ n ≤ 5) = true := decide_eq_true ⟨rfl, e1, e3, e6⟩
              subst e1
              go_wp2_with fail
              go_meet
              exact ⟨by rw [e4], rfl⟩
            · have e4 : decide (true = true ∧ k = 2 ∧ 1 ≤ n ∧ n ≤ 5) = false := decide_eq_false fun h => e6 h.2.2.2
              have e5 : decide (n ≤ 5) = false := decide_eq_false e6
              subst e1
              go_wp2_with fail
              go_meet
              exact ⟨by rw [e4], rfl⟩
          · have e4 : decide (true = true ∧ k = 2 ∧ 1 ≤ n ∧ n ≤ 5) = false := decide_eq_false fun h => e3 h.2.2.1
            have e5 : decide (1 ≤ n) = false := decide_eq_false e3
            subst e1
            go_wp2_with fail
            go_meet
            exact ⟨by rw [e4], rfl⟩
        · have e4 : decide (true = true ∧ k = 2 ∧ 1 ≤ n ∧ n ≤ 5) = false := decide_eq_false fun h => e1 h.2.1
          have e2 : (k == 2) = false := by simp [e1]
          go_wp2_with fail
          go_meet
          exact ⟨by rw [e4], rfl⟩
    case rest =>
    obtain ⟨rfl, rfl⟩ := hcut
    go_upto_if 117 with fail
    go_cut [4] from 13 to 155 (fun s wx => s = .bool false ∧ Below w.heap.size w wx)
    case first =>
      by_cases h8 : ok = true ∧ k = 2 ∧ 1 ≤ n ∧ n ≤ 5
      · obtain ⟨x, y, z, c1, c2, c3, c4, c5, c6⟩ := HT2.out h8
        rw [decide_eq_true h8]
        have e1 := HV1.out h8.1
        have e2 := e1.1
        have D1 := Lib.hid c1
        have D2 := Lib.hid c2
        have D3 := Lib.hid c3
        have e7 : (x * z - y * y == V) = true := by rw [c6]; simp
        clear e1 HT2 h8 c1 c2 c3
        go_wp2_with fail
        refine (D1.out _).mono ?_
        rintro e w5 ⟨rfl, hb5⟩
        have HB5 := Lib.hid (HB4.out.trans (hb5.mono HB4.out.size))
        clear hb5
        go_wp2_with fail
        refine (D2.out _).mono ?_
        rintro e w6 ⟨rfl, hb6⟩
        have HB6 := Lib.hid (HB5.out.trans (hb6.mono HB5.out.size))
        clear hb6
        go_wp2_with fail
        refine (D3.out _).mono ?_
        rintro e w7 ⟨rfl, hb7⟩
        have HB7 := Lib.hid (HB6.out.trans (hb7.mono HB6.out.size))
        clear hb7
        go_wp2_with fail
        go_meet
        exact ⟨rfl, HB7.out⟩
      · rw [decide_eq_false h8]
        clear h8
        go_wp2_with fail
        go_meet
        exact ⟨rfl, HB4.out⟩
    case rest =>
    obtain ⟨rfl, hbc⟩ := hcut
    have HB8 := Lib.hid hbc
    clear hbc HT2 HV1
    go_upto_region 21 with (first
      | (go_at_call 28; refine (HD1.out _ HB8.out).mono ?_; rintro e w9 ⟨a, b, c, rfl, ⟨ha, hb, hc⟩, hb9⟩; have HB9 := Lib.hid (HB8.out.trans (hb9.mono HB8.out.size)); clear hb9; unfold Small at ha hb hc)
      | (go_at_call 29; refine (hC.out _ _ _ _).mono ?_; rintro e wA ⟨rfl, hbA⟩; have HBA := Lib.hid (HB9.out.trans (hbA.mono HB9.out.size)); clear hbA)
      | (go_at_call 30; refine (HSC.out _ _ _ _).mono ?_; rintro e wB ⟨rfl, hbB⟩; have HBB := Lib.hid (HBA.out.trans (hbB.mono HBA.out.size)); clear hbB))
    have HQC : Hid (cubOk a b c = true → ∃ A B C : Nat, a = (A : Int) ∧ b = (B : Int) ∧ c = (C : Int) ∧ A ≤ 4 ∧ B ≤ 4 ∧ C ≤ 4 ∧ cubV a b c = ((cubeN A B C : Nat) : Int) ∧ cubT A B C = true) := Lib.hid cub_facts
    by_cases hok : cubOk a b c = true
    case neg =>
      have hok' : cubOk a b c = false := by simpa using hok
      rw [hok']
      clear hok hok' HQC
      go_wp2_with fail
      go_ret
      exact ⟨rfl, HBB.out⟩
    case pos =>
    obtain ⟨A, B, C, rfl, rfl, rfl, hA4, hB4, hC4, hv, ht⟩ := HQC.out hok
    rw [hok, hv]
    unfold cubT at ht
    simp only [Bool.and_eq_true, Bool.or_eq_true, Bool.not_eq_true', beq_eq_false_iff_ne, beq_iff_eq, decide_eq_true_eq, decide_eq_false_iff_not, Bool.or_eq_false_iff] at ht
    obtain ⟨t1, t2, t3, t4⟩ := ht
    have HC1 : Hid (∀ w, Calls Try.prog 29 #[.int .i64 (B : Int), .int .i64 (A : Int), .int .i64 (C : Int)] w (Ret w (.tuple #[.int .i64 ((cubeN A B C : Nat) : Int), .bool true]))) := Lib.hid fun w => by
      have h := hC.out (B : Int) (A : Int) (C : Int) w
      have g := cub_at1 hB4 hA4 hC4
      rw [g.1, g.2, t1] at h
      exact h
    have HC2 : Hid (∀ w, Calls Try.prog 29 #[.int .i64 (A : Int), .int .i64 (C : Int), .int .i64 (B : Int)] w (Ret w (.tuple #[.int .i64 ((cubeN A B C : Nat) : Int), .bool true]))) := Lib.hid fun w => by
      have h := hC.out (A : Int) (C : Int) (B : Int) w
      have g := cub_at1 hA4 hC4 hB4
      rw [g.1, g.2, t2] at h
      exact h
    have T3 : Hid ((A : Int) * (B : Int) * (C : Int) = 0 → cubeN A B C = 1) := Lib.hid fun h => by
      have h2 : A * B * C = 0 := by rw [← Int.natCast_mul, ← Int.natCast_mul] at h; omega
      have h3 : A = 0 ∨ B = 0 ∨ C = 0 := by
        rcases Nat.mul_eq_zero.1 h2 with h3 | h3
        · rcases Nat.mul_eq_zero.1 h3 with h3 | h3
          · exact .inl h3
          · exact .inr (.inl h3)
        · exact .inr (.inr h3)
      rcases t3 with t3 | t3
      · omega
      · exact t3
    have T4 : Hid (¬ A = 0 → askC A (stC A A) A (enC A B C A) = true ∧ cpV A (stC A A) A (enC A B C A) = ((cubeN A B C : Nat) : Int)) := Lib.hid fun h => t4.resolve_left h
    have m1 : 0 ≤ (A : Int) * (B : Int) ∧ (A : Int) * (B : Int) ≤ 16 := by
      have := Nat.mul_le_mul hA4 hB4
      rw [← Int.natCast_mul]; omega
    have m2 : 0 ≤ (A : Int) * (B : Int) * (C : Int) ∧ (A : Int) * (B : Int) * (C : Int) ≤ 64 := by
      have := Nat.mul_le_mul (Nat.mul_le_mul hA4 hB4) hC4
      rw [← Int.natCast_mul, ← Int.natCast_mul]; omega
    clear HQC hok hv t1 t2 t3 t4 hC HSC HD1
    generalize cubeN A B C = V9 at *
    have e9 : (((V9 : Nat) : Int) == ((V9 : Nat) : Int)) = true := by simp
    go_upto_region 24 with fail
    go_wp2_with fail
    refine (HC1.out _).mono ?_
    rintro e wE ⟨rfl, hbE⟩
    have HBE := Lib.hid (HBB.out.trans (hbE.mono HBB.out.size))
    clear hbE
    go_wp2_with fail
    refine (HC2.out _).mono ?_
    rintro e wF ⟨rfl, hbF⟩
    have HBF := Lib.hid (HBE.out.trans (hbF.mono HBE.out.size))
    clear hbF HC1 HC2
    go_upto_region 26 with fail
    go_cut [226] from 199 to 226 (fun s wx => s = .bool false ∧ wF = wx)
    case first =>
      by_cases e1 : (A : Int) * (B : Int) * (C : Int) = 0
      · have e2 := T3.out e1
        subst e2
        go_wp2_with fail
        go_meet
        exact ⟨rfl, rfl⟩
      · have e2 : ((A : Int) * (B : Int) * (C : Int) == 0) = false := by simpa using e1
        clear e1
        go_wp2_with fail
        go_meet
        exact ⟨rfl, rfl⟩
    case rest =>
    obtain ⟨rfl, rfl⟩ := hcut
    clear T3 m1 m2
    by_cases hA0 : A = 0
    · subst hA0
      go_wp2_with fail
      go_ret
      exact ⟨rfl, HBF.out⟩
    · obtain ⟨k1, k2⟩ := T4.out hA0
      have HAP : Hid (∀ v1 v2 W, Two w A B C A v1 v2 W → Calls Try.prog 31 #[v1, v2] W (Ret W (.tuple #[.int .i64 ((V9 : Nat) : Int), .bool true]))) := Lib.hid fun v1 v2 W h => by
        have := hA.out v1 v2 A A _ _ W (crow_rcels h.r1) (crow_rcels h.r2) (by omega) (by omega)
        rwa [k1, k2] at this
      clear k1 k2 T4 hA
      have i0 : (0 : Int) < (A : Int) := by omega
      have i0d : decide (0 < A) = true := decide_eq_true (by omega)
      have i0e : decide ((0 : Int) < (A : Int)) = true := decide_eq_true i0
      have HT0 : Hid (Two w A B C 0 (.slice none 0 0) (.slice none 0 0) wF) := Lib.hid ⟨CRow.nil _ _, CRow.nil _ _, (fun k h => by cases h), HBF.out⟩
      go_wp2_with fail
      go_loopw [30, 31, 32] (fun v1 v2 iv wr => ∃ (i : Nat) (u1 u2 : Value), v1 = u1 ∧ v2 = u2 ∧ i ≤ A ∧ iv = .int .i64 (i : Int) ∧ Two w A B C i u1 u2 wr) (fun _ _ iv _ => A - (intOf iv).toNat)
      case atStart => exact ⟨0, _, _, rfl, rfl, Nat.zero_le _, rfl, HT0.out⟩
      case round =>
        obtain ⟨i, u1, u2, e1, e2, hi, rfl, htw⟩ := hrel
        replace e1 := e1.symm
        replace e2 := e2.symm
        subst e1 e2
        have HTW := Lib.hid htw
        clear htw HT0
        by_cases hlt : i < A
        · have hsz := HTW.out.bl.size
          go_wp2_with (first
            | (at_builtin
               refine wpList_pushC ((A : Int) - 1 - (i : Int)) (i : Int) (.tmp 234) (.tmp 241) rfl rfl w.heap.size _ i _ rfl HTW.out.r1 wr.heap.size rfl rfl (by omega) hsz ?_
               intro v3 w3 hrow3 hg3 hat3
               have HS3 : Hid (w.heap.size ≤ w3.heap.size) := Lib.hid (Nat.le_trans hsz hg3.size)
               have HR3 := Lib.hid hrow3
               have HK3 := Lib.hid (crow_keep HTW.out.r2 hg3 HTW.out.ap)
               have HL3 := Lib.hid (below_grown_own HTW.out.bl hg3 HTW.out.r1.blk)
               have HP3 : Hid (∀ k, v3.ownBlock = some k → u2.ownBlock = some k → False) := Lib.hid fun k h1 h2 => by
                 rcases hat3 with e | ⟨g, e, hg⟩
                 · exact HTW.out.ap k (e ▸ h1) h2
                 · have := (HTW.out.r2.blk k h2).2
                   rw [e] at h1
                   injection h1 with h1
                   omega
               clear hrow3 hg3 hat3)
            | (at_builtin
               refine wpList_pushC ((A : Int) - 1 - (i : Int) + (B : Int)) ((i : Int) + (C : Int)) (.tmp 243) (.tmp 254) rfl rfl w.heap.size _ i _ rfl HK3.out w3.heap.size rfl rfl (by omega) HS3.out ?_
               intro v4 w4 hrow4 hg4 hat4
               have HTN : Hid (Two w A B C (i + 1) v3 v4 w4) := Lib.hid ⟨by rw [stC_succ]; exact crow_keep HR3.out hg4 (fun k h1 h2 => HP3.out k h2 h1), by rw [enC_succ]; exact hrow4, fun k h1 h2 => by
                 rcases hat4 with e | ⟨g, e, hg⟩
                 · exact HP3.out k h1 (e ▸ h2)
                 · have := (HR3.out.blk k h1).2
                   rw [e] at h2
                   injection h2 with h2
                   omega, below_grown_own HL3.out hg4 HK3.out.blk⟩
               clear hrow4 hg4 hat4))
          go_round
          case rel => exact ⟨i + 1, v3, v4, rfl, rfl, by omega, by go_num, HTN.out⟩
          case measure => simp [intOf]; omega
        · obtain rfl : i = A := by omega
          go_wp2_with (go_at_call 31; refine (HAP.out _ _ _ HTW.out).mono ?_; rintro e wG ⟨rfl, hbG⟩; have HBG := Lib.hid (HTW.out.bl.trans (hbG.mono HTW.out.bl.size)))
          go_ret
          exact ⟨rfl, HBG.out⟩
end Go.Proofs.Ytmfcknlpbliehab

/- Fans and piles of cubes as the program counts them: products brought to lowest terms; finitely many by the kernel. -/
namespace Go.Proofs.Ytmfcknlpbliehab
open Go.RowKit
set_option linter.unusedVariables false
def tml (r : Nat × Nat) (a b : Nat) : Nat × Nat := (r.1 * a / Nat.gcd (r.1 * a) (r.2 * b), r.2 * b / Nat.gcd (r.1 * a) (r.2 * b))
def gnI (k j : Nat) : Nat → Nat → Nat × Nat → Nat × Nat
  | 0, _, r => r
  | c + 1, i, r => gnI k j c (i + 1) (tml r (i + j + 2 * k) (i + j))
def gnJ (k : Nat) : Nat → Nat → Nat × Nat → Nat × Nat
  | 0, _, r => r
  | c + 1, j, r => gnJ k c (j + 1) (gnI k j j 1 r)
def ogI (k j : Nat) : Nat → Nat → Nat × Nat → Bool
  | 0, _, r => smR r
  | c + 1, i, r => smR r && ogI k j c (i + 1) (tml r (i + j + 2 * k) (i + j))
def ogJ (k : Nat) : Nat → Nat → Nat × Nat → Bool
  | 0, _, r => smR r
  | c + 1, j, r => ogI k j j 1 r && ogJ k c (j + 1) (gnI k j j 1 r)
theorem fan_two : ((List.range 9).all fun n => (List.range 5).all fun k => ogJ k (n - 1) 1 (1, 1) && (gnJ k (n - 1) 1 (1, 1)).1 == fanN n k) = true := by decide +kernel
theorem fan2_at {n k : Nat} (hn : n ≤ 8) (hk : k ≤ 4) : ogJ k (n - 1) 1 (1, 1) = true ∧ (gnJ k (n - 1) 1 (1, 1)).1 = fanN n k := by
  have h := List.all_eq_true.mp fan_two n (List.mem_range.mpr (by omega))
  have h2 := List.all_eq_true.mp h k (List.mem_range.mpr (by omega))
  rw [Bool.and_eq_true, beq_iff_eq] at h2
  exact h2
def dbK (i j : Nat) : Nat → Nat → Nat × Nat → Nat × Nat
  | 0, _, r => r
  | c + 1, k, r => dbK i j c (k + 1) (tml r (i + j + k - 1) (i + j + k - 2))
def dbJ (i c : Nat) : Nat → Nat → Nat × Nat → Nat × Nat
  | 0, _, r => r
  | q + 1, j, r => dbJ i c q (j + 1) (dbK i j c 1 r)
def dbI (b c : Nat) : Nat → Nat → Nat × Nat → Nat × Nat
  | 0, _, r => r
  | q + 1, i, r => dbI b c q (i + 1) (dbJ i c b 1 r)
def odK (i j : Nat) : Nat → Nat → Nat × Nat → Bool
  | 0, _, r => smR r
  | c + 1, k, r => smR r && odK i j c (k + 1) (tml r (i + j + k - 1) (i + j + k - 2))
def odJ (i c : Nat) : Nat → Nat → Nat × Nat → Bool
  | 0, _, r => smR r
  | q + 1, j, r => odK i j c 1 r && odJ i c q (j + 1) (dbK i j c 1 r)
def odI (b c : Nat) : Nat → Nat → Nat × Nat → Bool
  | 0, _, r => smR r
  | q + 1, i, r => odJ i c b 1 r && odI b c q (i + 1) (dbJ i c b 1 r)
theorem cube_two : ((List.range 5).all fun a => (List.range 5).all fun b => (List.range 5).all fun c => odI b c a 1 (1, 1) && (dbI b c a 1 (1, 1)).1 == cubeN a b c) = true := by decide +kernel
theorem cube2_at {a b c : Nat} (ha : a ≤ 4) (hb : b ≤ 4) (hc : c ≤ 4) : odI b c a 1 (1, 1) = true ∧ (dbI b c a 1 (1, 1)).1 = cubeN a b c := by
  have h := List.all_eq_true.mp cube_two a (List.mem_range.mpr (by omega))
  have h2 := List.all_eq_true.mp h b (List.mem_range.mpr (by omega))
  have h3 := List.all_eq_true.mp h2 c (List.mem_range.mpr (by omega))
  rw [Bool.and_eq_true, beq_iff_eq] at h3
  exact h3
end Go.Proofs.Ytmfcknlpbliehab
