/- Pack 35 of what FnExactRankOrdered needs: LokS, VsS. -/
import Derived.Test.YtmfcknlpbliehaaDoorKFnExactRankOrdered34
/- voLook: all votes on. -/
namespace Go.Proofs.YtmfcknlpbliehaaDoor
open Go.RowKit
set_option linter.unusedVariables false
def dnV (R p : Nat → Nat) : Nat → Bool
  | 0 => true
  | k + 1 => dnV R p k && decide (p k = R k)
theorem dnV_4 (R p : Nat → Nat) : dnV R p 4 = decide (same R p) := by
  show ((((true && decide (p 0 = R 0)) && decide (p 1 = R 1)) && decide (p 2 = R 2)) && decide (p 3 = R 3)) = _
  rw [Bool.true_and, Bool.eq_iff_iff]
  by_cases h : same R p
  · rw [decide_eq_true h]
    obtain ⟨h0, h1, h2, h3⟩ := h
    simp [h0, h1, h2, h3]
  · rw [decide_eq_false h]
    simp only [Bool.and_eq_true, decide_eq_true_iff]
    exact ⟨fun hx => absurd ⟨hx.1.1.1, hx.1.1.2, hx.1.2, hx.2⟩ h, fun hx => by cases hx⟩
/-- four numbers at g -/
structure C4 (p : Nat → Nat) (g o : Nat) (P : Nat) (v : Value) (W : World) : Prop where
  lt : g < W.heap.size
  ne : g ≠ P
  ow : some g ≠ v.ownBlock
  c0 : W.cell? ⟨g, o, none⟩ = some (.int .i64 ((p 0 : Nat) : Int))
  c1 : W.cell? ⟨g, o + 1, none⟩ = some (.int .i64 ((p 1 : Nat) : Int))
  c2 : W.cell? ⟨g, o + 2, none⟩ = some (.int .i64 ((p 2 : Nat) : Int))
  c3 : W.cell? ⟨g, o + 3, none⟩ = some (.int .i64 ((p 3 : Nat) : Int))
theorem C4.next {p : Nat → Nat} {g o P : Nat} {v v1 : Value} {W W1 : World} (h : C4 p g o P v W) (s : St9 P v W v1 W1) : C4 p g o P v1 W1 :=
  ⟨Nat.lt_of_lt_of_le h.lt s.size, h.ne, s.apart h.lt h.ow, (s.cell h.lt h.ne h.ow _).trans h.c0, (s.cell h.lt h.ne h.ow _).trans h.c1, (s.cell h.lt h.ne h.ow _).trans h.c2, (s.cell h.lt h.ne h.ow _).trans h.c3⟩
theorem St9.drewN {P : Nat} {v v1 : Value} {W W1 : World} (h : St9 P v W v1 W1) (n : Nat) : St9 P v W v1 (W1.drewN n) := h.trans (St9.below (below_drewN (Below.refl _ _) n))
theorem C4.drewN {p : Nat → Nat} {g o P : Nat} {v : Value} {W : World} (h : C4 p g o P v W) (n : Nat) : C4 p g o P v (W.drewN n) := h.next (St9.below (below_drewN (Below.refl _ _) n))
def pL (p : Nat → Nat) : List Int := [((p 0 : Nat) : Int), ((p 1 : Nat) : Int), ((p 2 : Nat) : Int), ((p 3 : Nat) : Int)]
def LkRet (P : Nat) (v : Value) (xs : List ByteArray) (W : World) (e : Ending) (W' : World) : Prop := e = .returned (.tuple #[]) ∧ ∃ v', LK P v' xs W' ∧ St9 P v W v' W'
theorem C4.own {p : Nat → Nat} {g P : Nat} {v : Value} {W : World} (h : C4 p g 0 P v W) (c : Nat) : Calls Tryd.prog 16 #[.slice (some ⟨g, 0, none⟩) 4 c] W (IntsNew W (pL p)) :=
  l1Own_any g 0 c (pL p) W h.lt (fun j hj => by
    have hj4 : j < 4 := hj
    have hjj : j = 0 ∨ j = 1 ∨ j = 2 ∨ j = 3 := by omega
    rcases hjj with e | e | e | e <;> subst e
    · exact h.c0
    · exact h.c1
    · exact h.c2
    · exact h.c3) (by simp [pL])
theorem C4.of_row {p : Nat → Nat} {g c P B : Nat} {v : Value} {W : World} (h : IRow W B (.slice (some ⟨g, 0, none⟩) 4 c) (pL p)) (hg : g < W.heap.size) (hne : g ≠ P) (ho : some g ≠ v.ownBlock) : C4 p g 0 P v W :=
  ⟨hg, hne, ho, h.cell (j := 0) (by simp [pL]), h.cell (j := 1) (by simp [pL]), h.cell (j := 2) (by simp [pL]), h.cell (j := 3) (by simp [pL])⟩
theorem pL_up (p : Nat → Nat) {i : Nat} (hi : i < 4) : (pL p).set i (((p i : Nat) : Int) + 1) = pL (up p i) := by
  have hjj : i = 0 ∨ i = 1 ∨ i = 2 ∨ i = 3 := by omega
  rcases hjj with e | e | e | e <;> subst e <;> simp [pL, up]
theorem abcd1_size {k : Nat} (h : k < 4) : (abcd1 k).size = 1 := by rw [abcd1_eq h]; rfl
end Go.Proofs.YtmfcknlpbliehaaDoor

/- voSame, voCode. -/
namespace Go.Proofs.YtmfcknlpbliehaaDoor
open Go.RowKit
set_option linter.unusedVariables false
def cod (p : Nat → Nat) : Nat := ((p 0 * 17 + p 1) * 17 + p 2) * 17 + p 3
set_option maxRecDepth 100000 in
set_option maxHeartbeats 4000000 in
theorem voSame_any (p q : Nat → Nat) (g1 o1 c1 g2 o2 c2 P1 P2 : Nat) (v1 v2 : Value) (W : World) (h1 : C4 p g1 o1 P1 v1 W) (h2 : C4 q g2 o2 P2 v2 W) :
    Calls Tryd.prog 31 #[.slice (some ⟨g1, o1, none⟩) 4 c1, .slice (some ⟨g2, o2, none⟩) 4 c2] W fun e w' => e = .returned (.bool (decide (same q p))) ∧ Below W.heap.size W w' := by
  obtain ⟨la, lb, lc, a0, a1, a2, a3⟩ := h1
  obtain ⟨ld, le, lf, b0, b1, b2, b3⟩ := h2
  clear la lb lc ld le lf
  have hd : decide (same q p) = (decide (p 0 = q 0) && (decide (p 1 = q 1) && (decide (p 2 = q 2) && decide (p 3 = q 3)))) := by
    rw [Bool.eq_iff_iff]
    simp only [Bool.and_eq_true, decide_eq_true_iff]
    exact ⟨fun h => h, fun h => h⟩
  rw [hd]
  clear hd
  have nb : ∀ k, p k ≠ q k → (((p k : Nat) : Int) == ((q k : Nat) : Int)) = false := fun k h => by simp; omega
  have yb : ∀ k, p k = q k → (((p k : Nat) : Int) == ((q k : Nat) : Int)) = true := fun k h => by rw [h]; simp
  by_cases e0 : p 0 = q 0
  · have t0 := yb 0 e0
    rw [decide_eq_true e0, Bool.true_and]
    by_cases e1 : p 1 = q 1
    · have t1 := yb 1 e1
      rw [decide_eq_true e1, Bool.true_and]
      by_cases e2 : p 2 = q 2
      · have t2 := yb 2 e2
        rw [decide_eq_true e2, Bool.true_and]
        by_cases e3 : p 3 = q 3
        · have t3 := yb 3 e3
          rw [decide_eq_true e3]
          clear nb yb e0 e1 e2 e3
          go_enter Tryd.func31, Tryd.ntmps31
          go_wp2
          refine wp_loop_rounds 5 ?_
          iterate 4 (rw [rounds_succ]; go_wp2; go_region; go_wp2)
          rw [rounds_succ]
          go_wp2
          go_ret
          exact ⟨rfl, below_drewN (Below.refl _ _) 4⟩
        · have t3 := nb 3 e3
          rw [decide_eq_false e3]
          clear nb yb e0 e1 e2 e3
          go_enter Tryd.func31, Tryd.ntmps31
          go_wp2
          refine wp_loop_rounds 4 ?_
          iterate 4 (rw [rounds_succ]; go_wp2; go_region; go_wp2)
          go_ret
          exact ⟨rfl, below_drewN (Below.refl _ _) 4⟩
      · have t2 := nb 2 e2
        rw [decide_eq_false e2, Bool.false_and]
        clear nb yb e0 e1 e2
        go_enter Tryd.func31, Tryd.ntmps31
        go_wp2
        refine wp_loop_rounds 3 ?_
        iterate 3 (rw [rounds_succ]; go_wp2; go_region; go_wp2)
        go_ret
        exact ⟨rfl, below_drewN (Below.refl _ _) 3⟩
    · have t1 := nb 1 e1
      rw [decide_eq_false e1, Bool.false_and]
      clear nb yb e0 e1
      go_enter Tryd.func31, Tryd.ntmps31
      go_wp2
      refine wp_loop_rounds 2 ?_
      iterate 2 (rw [rounds_succ]; go_wp2; go_region; go_wp2)
      go_ret
      exact ⟨rfl, below_drewN (Below.refl _ _) 2⟩
  · have t0 := nb 0 e0
    rw [decide_eq_false e0, Bool.false_and]
    clear nb yb e0
    go_enter Tryd.func31, Tryd.ntmps31
    go_wp2
    refine wp_loop_rounds 1 ?_
    iterate 1 (rw [rounds_succ]; go_wp2; go_region; go_wp2)
    go_ret
    exact ⟨rfl, below_drewN (Below.refl _ _) 1⟩
set_option maxRecDepth 100000 in
set_option maxHeartbeats 4000000 in
theorem voCode_any (p : Nat → Nat) (g1 o1 c1 P1 : Nat) (v1 : Value) (W : World) (hp : sm p) (h1 : C4 p g1 o1 P1 v1 W) :
    Calls Tryd.prog 17 #[.slice (some ⟨g1, o1, none⟩) 4 c1] W fun e w' => e = .returned (.int .i64 ((cod p : Nat) : Int)) ∧ Below W.heap.size W w' := by
  obtain ⟨la, lb, lc, a0, a1, a2, a3⟩ := h1
  clear la lb lc
  have p0 := hp 0 (by omega)
  have p1 := hp 1 (by omega)
  have p2 := hp 2 (by omega)
  have p3 := hp 3 (by omega)
  have HC : Hid (((((p 0 : Nat) : Int) * 17 + ((p 1 : Nat) : Int)) * 17 + ((p 2 : Nat) : Int)) * 17 + ((p 3 : Nat) : Int) = ((cod p : Nat) : Int)) := Lib.hid (by unfold cod; omega)
  clear hp
  generalize cod p = C at *
  go_enter Tryd.func17, Tryd.ntmps17
  go_wp2
  refine wp_loop_rounds 5 ?_
  iterate 4 (rw [rounds_succ]; go_wp2)
  rw [rounds_succ]
  go_wp2
  go_ret
  exact ⟨ret_int (by rw [← HC.out]), Below.refl _ _⟩
end Go.Proofs.YtmfcknlpbliehaaDoor
