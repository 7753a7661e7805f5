/- Pack 24 of what FnExactRankOrdered needs: RacK, ResS. -/
import Derived.Test.YtmfcknlpbliehaaDoorKFnExactRankOrdered23
import Derived.Maps.Own
/- A race made; its ways. -/
namespace Go.Proofs.YtmfcknlpbliehaaDoor
open Go.RowKit
set_option linter.unusedVariables false
theorem waysOn_any (R : Nat → Nat) (mb : Nat) (hR : sm R) (hR16 : tot R ≤ 16) : ∀ (n : Nat) (p : Nat → Nat) (w : World), Ok R p → tot R ≤ tot p + n → MapW w mb (W R) →
    Calls Tryd.prog 43 #[raceV R mb, stA p] w (WayRet w mb R (W R p))
  | 0, p, w, hp, hn, h => waysOn_step R p mb w hR hR16 hp h (fun i hi hno => by
      have h1 := (hp.up hi hno).tle
      rw [tot_up p hi] at h1
      omega)
  | n + 1, p, w, hp, hn, h => waysOn_step R p mb w hR hR16 hp h (fun i hi hno w' h' => waysOn_any R mb hR hR16 n (up p i) w' (hp.up hi hno) (by rw [tot_up p hi]; omega) h')
theorem waysBy_ok (R p : Nat → Nat) (i mb : Nat) (w : World) (hi : i < 4) (hR : sm R) (hR16 : tot R ≤ 16) (hp : Ok R p) (h : MapW w mb (W R)) :
    Calls Tryd.prog 35 #[raceV R mb, stA p, .int .i64 (i : Int)] w (WayRet w mb R (byW R p i)) :=
  waysBy_any R p i mb w hi hR (fun j hj => Nat.le_trans (hp.le j hj) (hR j hj)) h (fun hno w' h' => waysOn_any R mb hR hR16 (tot R) (up p i) w' (hp.up hi hno) (by omega) h')
set_option maxRecDepth 100000 in
set_option maxHeartbeats 4000000 in
theorem newRace_any (R : Nat → Nat) (w : World) :
    Calls Tryd.prog 19 #[stA R] w fun e w' => ∃ mb, e = .returned (raceV R mb) ∧ MapW w' mb (W R) ∧ w.heap.size ≤ mb ∧ Below w.heap.size w w' := by
  unfold stA
  have hmm := @run_makeMap Tryd.prog
  go_enter Tryd.func19, Tryd.ntmps19
  go_wp2
  refine bodyPost_ret (v := raceV R (w.heap.size + 2)) (by unfold raceV; simp [results, Tryd.results19, go_sem]; try omega) rfl ⟨_, rfl, ?_, by omega, ?_⟩
  · have := MapW.made ((w.alloc (.cells #[.int .i64 ((R 0 : Nat) : Int), .int .i64 ((R 1 : Nat) : Int), .int .i64 ((R 2 : Nat) : Int), .int .i64 ((R 3 : Nat) : Int)] 38)).alloc (.cells #[.int .i64 ((R 0 : Nat) : Int), .int .i64 ((R 1 : Nat) : Int), .int .i64 ((R 2 : Nat) : Int), .int .i64 ((R 3 : Nat) : Int), .map (some (w.heap.size + 2))] 43)) (W R)
    simpa using this
  · exact (((Below.refl _ _).alloc (Nat.le_refl _) _).alloc (by simp) _).alloc (by simp; omega) _
end Go.Proofs.YtmfcknlpbliehaaDoor

/- IsResult: both sides. -/
namespace Go.Proofs.YtmfcknlpbliehaaDoor
open Go.RowKit
set_option linter.unusedVariables false
theorem resB_four (x0 x1 x2 x3 : Int) : resB [x0, x1, x2, x3] = (allB [x0, x1, x2, x3] 0 16 && (f4 x0 x1 x2 x3 && decide (x0 + x1 + x2 + x3 ≤ 16))) := by
  have e : flTo [x0, x1, x2, x3] 4 = f4 x0 x1 x2 x3 := by
    show (((true && decide (x1 ≤ x0)) && decide (x2 ≤ x1)) && decide (x3 ≤ x2)) = _
    rw [Bool.true_and]; rfl
  have e2 : ([x0, x1, x2, x3] : List Int).sum = x0 + x1 + x2 + x3 := by simp; omega
  unfold resB
  rw [e, e2]
  rfl
theorem resB_len {xs : List Int} (h : ¬ xs.length = 4) : resB xs = false := by unfold resB; rw [decide_eq_false h]; rfl
theorem four_of {xs : List Int} (h : xs.length = 4) : ∃ a b c d, xs = [a, b, c, d] := by
  match xs, h with
  | [a, b, c, d], _ => exact ⟨a, b, c, d, rfl⟩
theorem allB_four {a b c d : Int} (h : allB [a, b, c, d] 0 16 = true) : (0 ≤ a ∧ a ≤ 16) ∧ (0 ≤ b ∧ b ≤ 16) ∧ (0 ≤ c ∧ c ≤ 16) ∧ (0 ≤ d ∧ d ≤ 16) := by
  simpa [allB, inBd] using h
end Go.Proofs.YtmfcknlpbliehaaDoor
