/- The law on grids over the program's two contracts. -/
import Derived.Test.YtnmmgpmhpjjehaaGridS
import Derived.Outline
namespace Go.Proofs.Ytnmmgpmhpjjehaa
open Go.RowKit
set_option linter.unusedVariables false
/-- what the first half asks of -/
structure DelFacts (a b c : Int) : Prop where
  ok : delOk a b = true
  val : delV a b = c
  ok2 : delOk b a = true
  val2 : delV b a = c
  rng : 0 ≤ a ∧ a ≤ 12 ∧ 0 ≤ b ∧ b ≤ 12
  bd : 0 ≤ c ∧ c ≤ 282429536481
  one : a = 0 ∨ b = 0 → c = 1
  recu : 0 < a → 0 < b → (delOk (a - 1) b = true ∧ delOk a (b - 1) = true ∧ delOk (a - 1) (b - 1) = true) ∧ delV (a - 1) b + delV a (b - 1) + delV (a - 1) (b - 1) = c ∧ (0 ≤ delV (a - 1) b ∧ 0 ≤ delV a (b - 1) ∧ 0 ≤ delV (a - 1) (b - 1))
theorem delFacts {a b : Int} (h : delOk a b = true) : DelFacts a b (delV a b) := by
  obtain ⟨m, n, rfl, rfl, hm, hn, hv⟩ := del_of h
  have h2 := del_mk hn hm
  rw [hv]
  refine ⟨h, hv, h2.1, by rw [h2.2, del_symm], by omega, by have := del_small hn hm; omega, fun h0 => ?_, fun h3 h4 => ?_⟩
  · rcases h0 with h0 | h0
    · rw [show m = 0 by omega, del_col]; rfl
    · rw [show n = 0 by omega, del_row]; rfl
  · obtain ⟨m, rfl⟩ : ∃ k, m = k + 1 := ⟨m - 1, by omega⟩
    obtain ⟨n, rfl⟩ : ∃ k, n = k + 1 := ⟨n - 1, by omega⟩
    have e1 := del_mk (m := m) (n := n + 1) (by omega) (by omega)
    have e2 := del_mk (m := m + 1) (n := n) (by omega) (by omega)
    have e3 := del_mk (m := m) (n := n) (by omega) (by omega)
    rw [show ((m + 1 : Nat) : Int) - 1 = (m : Int) by omega, show ((n + 1 : Nat) : Int) - 1 = (n : Int) by omega, e1.2, e2.2, e3.2, del_step]
    exact ⟨⟨e1.1, e2.1, e3.1⟩, by omega, by omega⟩
structure SchFacts (k s : Int) : Prop where
  ok : schOk k = true
  val : schV k = s
  rng : 0 ≤ k ∧ k ≤ 12
  bd : 0 ≤ s ∧ s ≤ 282429536481
  all : delOk k k = true ∧ s ≤ delV k k ∧ delV k k ≤ 282429536481
  even : 0 < k → s % 2 = 0
  recu : 2 ≤ k → (schOk (k - 1) = true ∧ schOk (k - 2) = true) ∧ (k + 1) * s = (6 * k - 3) * schV (k - 1) - (k - 2) * schV (k - 2) ∧
    (0 ≤ (k + 1) * s ∧ (k + 1) * s ≤ 10000000000000) ∧ (0 ≤ (6 * k - 3) * schV (k - 1) ∧ (6 * k - 3) * schV (k - 1) ≤ 100000000000000) ∧ (0 ≤ (k - 2) * schV (k - 2) ∧ (k - 2) * schV (k - 2) ≤ 10000000000000)
theorem mul_le_of {x y A B : Int} (hx : 0 ≤ x ∧ x ≤ A) (hy : 0 ≤ y ∧ y ≤ B) : 0 ≤ x * y ∧ x * y ≤ A * B :=
  ⟨Int.mul_nonneg hx.1 hy.1, Int.le_trans (Int.mul_le_mul_of_nonneg_left hy.2 hx.1) (Int.mul_le_mul_of_nonneg_right hx.2 (by omega))⟩
theorem schFacts {k : Int} (h : schOk k = true) : SchFacts k (schV k) := by
  obtain ⟨n, rfl, hn, hv⟩ := sch_of h
  rw [hv]
  have h2 := del_mk hn hn
  obtain ⟨f1, f2, f3⟩ := sch_fact n (by omega)
  have b1 := sch_small hn hn
  refine ⟨h, hv, by omega, by omega, ⟨h2.1, by rw [h2.2]; omega, by rw [h2.2]; have := del_small hn hn; omega⟩, fun h0 => by have := f2 (by omega); omega, fun h0 => ?_⟩
  obtain ⟨n, rfl⟩ : ∃ q, n = q + 2 := ⟨n - 2, by omega⟩
  have e1 := sch_mk (k := n + 1) (by omega)
  have e2 := sch_mk (k := n) (by omega)
  have b2 := sch_small (y := n + 1) (x := n + 1) (by omega) (by omega)
  have b3 := sch_small (y := n) (x := n) (by omega) (by omega)
  have f4 := f3 (by omega)
  rw [show n + 2 - 1 = n + 1 by omega, show n + 2 - 2 = n by omega] at f4
  rw [show ((n + 2 : Nat) : Int) - 1 = ((n + 1 : Nat) : Int) by omega, show ((n + 2 : Nat) : Int) - 2 = (n : Int) by omega, e1.2, e2.2]
  generalize sch (n + 2) (n + 2) = s at *
  generalize sch (n + 1) (n + 1) = p at *
  generalize sch n n = q at *
  have p1 := mul_le_of (x := ((n + 2 : Nat) : Int) + 1) (y := (s : Int)) (A := 13) (B := 282429536481) (by omega) (by omega)
  have p2 := mul_le_of (x := 6 * ((n + 2 : Nat) : Int) - 3) (y := (p : Int)) (A := 69) (B := 282429536481) (by omega) (by omega)
  have p3 := mul_le_of (x := (n : Int)) (y := (q : Int)) (A := 10) (B := 282429536481) (by omega) (by omega)
  refine ⟨⟨e1.1, e2.1⟩, ?_, by omega, by omega, by omega⟩
  have f5 : (((n + 2 + 1) * s + n * q : Nat) : Int) = (((6 * (n + 2) - 3) * p : Nat) : Int) := by rw [f4]
  rw [Int.natCast_add, Int.natCast_mul, Int.natCast_mul, Int.natCast_mul] at f5
  rw [show ((n + 2 + 1 : Nat) : Int) = ((n + 2 : Nat) : Int) + 1 by omega, show ((6 * (n + 2) - 3 : Nat) : Int) = 6 * ((n + 2 : Nat) : Int) - 3 by omega] at f5
  omega
set_option maxRecDepth 100000 in
set_option maxHeartbeats 4000000 in
theorem wGrids (hD : Hid (∀ (a b : Int) (w : World), Calls Try.prog 22 #[.int .i64 a, .int .i64 b] w (Ret w (.tuple #[.int .i64 (delV a b), .bool (delOk a b)]))))
    (hSc : Hid (∀ (a : Int) (w : World), Calls Try.prog 25 #[.int .i64 a] w (Ret w (.tuple #[.int .i64 (schV a), .bool (schOk a)]))))
    (a0 : Option Addr) (l0 c0 : Nat) (a1 : Option Addr) (l1 c1 : Nat) (w : World) (h0 : IsCode w a0 l0 c0) (h1 : IsCode w a1 l1 c1) :
    Calls Try.prog 3 #[.slice a0 l0 c0, .slice a1 l1 c1] w fun e w' => e = .returned (.bool true) ∧ Below w.heap.size w w' := by
  have HB := Lib.hid (bigAny a0 a1 l0 c0 l1 c1 w h0.2 h1.2)
  by_cases hbig : 1048576 < l0 + l1
  · rw [decide_eq_true hbig] at HB
    clear h0 h1
    go_enter Try.func3, Try.ntmps3
    go_wp2_with (go_at_call 20; refine HB.out.mono ?_; rintro e w' ⟨rfl, rfl⟩)
    go_ret
    exact ⟨rfl, Below.refl _ _⟩
  rw [decide_eq_false hbig] at HB
  have HD0 := Lib.hid (drawDel_any w a0 l0 c0 h0.1 (by omega))
  have H1 := Lib.hid h1
  clear h0 h1
  go_enter Try.func3, Try.ntmps3
  go_wp2_with (go_at_call 20; refine HB.out.mono ?_; rintro e w' ⟨rfl, rfl⟩)
  refine HD0.out.mono ?_
  rintro e w1 ⟨a, b, rfl, ha, hb, hb1⟩
  have HB1 := Lib.hid hb1
  clear ha hb hb1 HB HD0
  go_upto_if 58 with (first | (go_at_call 22; refine (hD.out _ _ _).mono ?_; rintro e w2 ⟨rfl, hb2⟩) | (go_at_call 23; refine (specDel_ret _ _ _).mono ?_; rintro e w3 ⟨rfl, hb3⟩))
  have HB3 : Hid (Below w.heap.size w w3) := Lib.hid ((HB1.out.trans (hb2.mono HB1.out.size)).trans (hb3.mono (Nat.le_trans HB1.out.size hb2.size)))
  clear hb2 hb3 HB1
  generalize hok : delOk a b = ok at *
  generalize hcv : delV a b = c at *
  have HOK := Lib.hid (And.intro hok hcv)
  clear hok hcv
  go_cut [4] from 5 (fun s wx => s = .bool false ∧ Below w.heap.size w wx)
  case first =>
    cases ok with
    | false =>
      go_wp2_with fail
      go_meet
      exact ⟨rfl, HB3.out⟩
    | true =>
      have F := delFacts HOK.out.1
      rw [HOK.out.2] at F
      obtain ⟨_, _, f3, f4, f5, f6, f7, f8⟩ := F
      have HC1 : Hid (∀ w, Calls Try.prog 22 #[.int .i64 b, .int .i64 a] w (Ret w (.tuple #[.int .i64 c, .bool true]))) := Lib.hid fun w => by
        have := hD.out b a w
        rwa [f3, f4] at this
      have H7 := Lib.hid f7
      have H8 := Lib.hid f8
      clear f3 f4 f7 f8
      by_cases hz : a = 0 ∨ b = 0
      · have hc : c = 1 := H7.out hz
        have k1 : (a * b == 0) = true := by
          rw [beq_iff_eq]
          rcases hz with h | h <;> rw [h] <;> simp
        have k2 : (c != 1) = false := by rw [hc]; rfl
        have k3 : 0 ≤ a * b ∧ a * b ≤ 144 := by
          rcases hz with h | h <;> rw [h] <;> simp
        have hz2 : ¬ 0 < a ∨ (0 < a ∧ ¬ 0 < b) := by omega
        clear hz hc
        rcases hz2 with h1 | ⟨h1, h2⟩
        · go_wp2_with (go_at_call 22; refine (HC1.out _).mono ?_; rintro e w4 ⟨rfl, hb4⟩)
          go_meet
          exact ⟨rfl, HB3.out.trans (hb4.mono HB3.out.size)⟩
        · go_wp2_with (go_at_call 22; refine (HC1.out _).mono ?_; rintro e w4 ⟨rfl, hb4⟩)
          go_meet
          exact ⟨rfl, HB3.out.trans (hb4.mono HB3.out.size)⟩
      · have h1 : 0 < a := by omega
        have h2 : 0 < b := by omega
        obtain ⟨⟨o1, o2, o3⟩, hs, n1, n2, n3⟩ := H8.out h1 h2
        have HC2 : Hid (∀ w, Calls Try.prog 22 #[.int .i64 (a - 1), .int .i64 b] w (Ret w (.tuple #[.int .i64 (delV (a - 1) b), .bool true]))) := Lib.hid fun w => by
          have := hD.out (a - 1) b w
          rwa [o1] at this
        have HC3 : Hid (∀ w, Calls Try.prog 22 #[.int .i64 a, .int .i64 (b - 1)] w (Ret w (.tuple #[.int .i64 (delV a (b - 1)), .bool true]))) := Lib.hid fun w => by
          have := hD.out a (b - 1) w
          rwa [o2] at this
        have HC4 : Hid (∀ w, Calls Try.prog 22 #[.int .i64 (a - 1), .int .i64 (b - 1)] w (Ret w (.tuple #[.int .i64 (delV (a - 1) (b - 1)), .bool true]))) := Lib.hid fun w => by
          have := hD.out (a - 1) (b - 1) w
          rwa [o3] at this
        have k1 : (a * b == 0) = false := by
          rw [beq_eq_false_iff_ne]
          have := Int.mul_pos h1 h2
          omega
        have k3 := mul_le_of (x := a) (y := b) (A := 12) (B := 12) (by omega) (by omega)
        generalize delV (a - 1) b = x1 at *
        generalize delV a (b - 1) = x2 at *
        generalize delV (a - 1) (b - 1) = x3 at *
        have k2 : (x1 + x2 + x3 != c) = false := by rw [hs]; simp
        have k4 : x1 + x2 + x3 ≤ 282429536481 := by omega
        clear hs o1 o2 o3 hz
        go_wp2_with fail
        refine (HC1.out _).mono ?_
        rintro e w4 ⟨rfl, hb4⟩
        go_wp2_with fail
        refine (HC2.out _).mono ?_
        rintro e w5 ⟨rfl, hb5⟩
        go_wp2_with fail
        refine (HC3.out _).mono ?_
        rintro e w6 ⟨rfl, hb6⟩
        go_wp2_with fail
        refine (HC4.out _).mono ?_
        rintro e w7 ⟨rfl, hb7⟩
        go_wp2_with fail
        go_meet
        have s3 := HB3.out.size
        exact ⟨rfl, (((HB3.out.trans (hb4.mono s3)).trans (hb5.mono (Nat.le_trans s3 hb4.size))).trans (hb6.mono (Nat.le_trans (Nat.le_trans s3 hb4.size) hb5.size))).trans (hb7.mono (Nat.le_trans (Nat.le_trans (Nat.le_trans s3 hb4.size) hb5.size) hb6.size))⟩
  case rest =>
    obtain ⟨rfl, hbw⟩ := hcut
    have HS0 := Lib.hid (drawSch_any wc a1 l1 c1 (H1.out.1.below hbw) (by omega))
    have HBW := Lib.hid hbw
    clear hbw HB3
    go_wp2_with fail
    refine HS0.out.mono ?_
    rintro e w2 ⟨k, rfl, hk, hb2⟩
    have z0 := HBW.out.size
    have HB2 := Lib.hid (HBW.out.trans (hb2.mono z0))
    clear hk hb2 HS0
    go_wp2_with fail
    refine (hSc.out k _).mono ?_
    rintro e w3' ⟨rfl, hb3⟩
    have HB4 := Lib.hid (HB2.out.trans (hb3.mono HB2.out.size))
    clear hb3
    have HSP := Lib.hid (specSch_ret k w3')
    generalize hok : schOk k = ok2 at *
    generalize hcv : schV k = s at *
    have HOK2 := Lib.hid (And.intro hok hcv)
    clear hok hcv
    go_wp2_with fail
    refine HSP.out.mono ?_
    rintro e w4 ⟨rfl, hb4⟩
    have HB5 := Lib.hid (HB4.out.trans (hb4.mono HB4.out.size))
    clear hb4
    cases ok2 with
    | false =>
      go_wp2_with fail
      go_ret
      exact ⟨rfl, HB5.out⟩
    | true =>
      have F := schFacts HOK2.out.1
      rw [HOK2.out.2] at F
      obtain ⟨_, _, f3, f4, ⟨f5, f6, f7⟩, f8, f9⟩ := F
      have HC1 : Hid (∀ w, Calls Try.prog 22 #[.int .i64 k, .int .i64 k] w (Ret w (.tuple #[.int .i64 (delV k k), .bool true]))) := Lib.hid fun w => by
        have := hD.out k k w
        rwa [f5] at this
      generalize delV k k = d at *
      have H9 := Lib.hid f9
      have g1 : ¬ d < s := by omega
      by_cases h1 : 0 < k
      · have e2 : (s % 2 != 0) = false := by rw [f8 h1]; rfl
        by_cases h2 : 2 ≤ k
        · obtain ⟨⟨o1, o2⟩, hs, n1, n2, n3⟩ := H9.out h2
          have HC2 : Hid (∀ w, Calls Try.prog 25 #[.int .i64 (k - 1)] w (Ret w (.tuple #[.int .i64 (schV (k - 1)), .bool true]))) := Lib.hid fun w => by
            have := hSc.out (k - 1) w
            rwa [o1] at this
          have HC3 : Hid (∀ w, Calls Try.prog 25 #[.int .i64 (k - 2)] w (Ret w (.tuple #[.int .i64 (schV (k - 2)), .bool true]))) := Lib.hid fun w => by
            have := hSc.out (k - 2) w
            rwa [o2] at this
          generalize schV (k - 1) = x1 at *
          generalize schV (k - 2) = x2 at *
          have k2 : ((k + 1) * s != (6 * k - 3) * x1 - (k - 2) * x2) = false := by rw [hs]; simp
          clear hs o1 o2 f5 f8 f9
          go_wp2_with fail
          refine (HC1.out _).mono ?_
          rintro e w5 ⟨rfl, hb5⟩
          have HB6 := Lib.hid (HB5.out.trans (hb5.mono HB5.out.size))
          clear hb5
          go_wp2_with fail
          refine (HC2.out _).mono ?_
          rintro e w6 ⟨rfl, hb6⟩
          have HB7 := Lib.hid (HB6.out.trans (hb6.mono HB6.out.size))
          clear hb6
          go_wp2_with fail
          refine (HC3.out _).mono ?_
          rintro e w7 ⟨rfl, hb7⟩
          have HB8 := Lib.hid (HB7.out.trans (hb7.mono HB7.out.size))
          clear hb7
          go_wp2_with fail
          go_ret
          exact ⟨rfl, HB8.out⟩
        · clear f5 f8 f9
          go_wp2_with fail
          refine (HC1.out _).mono ?_
          rintro e w5 ⟨rfl, hb5⟩
          have HB6 := Lib.hid (HB5.out.trans (hb5.mono HB5.out.size))
          clear hb5
          go_wp2_with fail
          go_ret
          exact ⟨rfl, HB6.out⟩
      · have h2 : ¬ 2 ≤ k := by omega
        clear f5 f8 f9
        go_wp2_with fail
        refine (HC1.out _).mono ?_
        rintro e w5 ⟨rfl, hb5⟩
        have HB6 := Lib.hid (HB5.out.trans (hb5.mono HB5.out.size))
        clear hb5
        go_wp2_with fail
        go_ret
        exact ⟨rfl, HB6.out⟩
end Go.Proofs.Ytnmmgpmhpjjehaa
