/- The model's MomentsOf. -/
import Derived.Test.YtnmmgpmhpjjehaaMoS
import Derived.Test.YtnmmgpmhpjjehaaLvS
namespace Go.Proofs.Ytnmmgpmhpjjehaa
open Go.RowKit
set_option linter.unusedVariables false
/-- the first N moments of weights -/
def momL (fs ds : List Int) (N : Nat) : List Int := fr (fun k => mo fs.length (fun i => fs.getD i 0) (fun i => ds.getD i 0) k 0) N
def momOk (fs ds : List Int) (n : Int) : Bool := (lvB fs ds && inB n 1 8) && decide (n ≤ 2 * (fs.length : Nat))
def momV (fs ds : List Int) (n : Int) : List Int := if momOk fs ds n = true then momL fs ds n.toNat else []
theorem momV_no {fs ds : List Int} {n : Int} (h : momOk fs ds n = false) : momV fs ds n = [] := by unfold momV; rw [h]; rfl
theorem kiMoments_any (v u : Value) (fs ds : List Int) (N : Nat) (w : World) (hF : RInts w v fs) (hD : RInts w u ds) (hl : lvB fs ds = true) (hN : 1 ≤ N ∧ N ≤ 8) :
    Calls Try.prog 88 #[.agg #[v, u], .int .i64 (N : Int)] w (IntsNew w (momL fs ds N)) := by
  obtain ⟨⟨hn1, hn6⟩, hdn, hfv, hdv⟩ := lvB_of hl
  obtain ⟨q1, o1, c1, rfl, hq1, hcF⟩ := hF.cells (by omega)
  obtain ⟨q2, o2, c2, rfl, hq2, hcD⟩ := hD.cells (by omega)
  obtain ⟨K, hK⟩ : ∃ K, fs.length = K + 1 := ⟨fs.length - 1, by omega⟩
  have := kiMoments_core K q1 o1 c1 q2 o2 c2 N (fun i => fs.getD i 0) (fun i => ds.getD i 0) w (by omega) hN hq1 hq2 (fun j hj => hcF j (by omega)) (fun j hj => hcD j (by omega)) (fun i hi => hfv i (by omega)) (fun i hi => by have := hdv i (by omega); show -5 ≤ ds.getD i 0 ∧ ds.getD i 0 ≤ 5; omega)
  unfold momL
  rw [hdn, hK]
  exact this
set_option maxRecDepth 100000 in
set_option maxHeartbeats 1600000 in
theorem specMomentsOf_ret (v u : Value) (fs ds : List Int) (n : Int) (w : World) (hF : RInts w v fs) (hD : RInts w u ds) (h1 : fs.length ≤ 1048576) (h2 : ds.length ≤ 1048576) :
    Calls Try.prog 47 #[.agg #[v, u], .int .i64 n] w (IntsRet w (momOk fs ds n) (momV fs ds n)) := by
  obtain ⟨W, hW⟩ : ∃ W, W = w.alloc (.cells #[v, u] 45) := ⟨_, rfl⟩
  have hb : Below w.heap.size w W := by rw [hW]; exact (Below.refl _ _).alloc (Nat.le_refl _) _
  have HK : Hid (Calls Try.prog 86 #[.agg #[v, u]] W (Ret W (.bool (lvB fs ds)))) := Lib.hid (kiLevels_any v u fs ds _ (hF.below hb) (hD.below hb) h1 h2)
  have hz : W.heap.size = w.heap.size + 1 := by rw [hW]; simp
  have c0 : W.cell? ⟨w.heap.size, 0, none⟩ = some v := by rw [hW]; simp [go_sem]
  have c1 : W.cell? ⟨w.heap.size, 1, none⟩ = some u := by rw [hW]; simp [go_sem]
  have HF := Lib.hid (hF.below hb)
  have HD := Lib.hid (hD.below hb)
  have HW := Lib.hid hW
  have HB := Lib.hid hb
  have HI := Lib.hid (in_any n 1 8)
  obtain ⟨A, c, rfl⟩ := hF.shape
  obtain ⟨A2, c2, rfl⟩ := hD.shape
  clear hF hD hW hb
  rcases Bool.eq_false_or_eq_true (lvB fs ds) with hl | hl
  · have hn6 := (lvB_of hl).1
    rcases Bool.eq_false_or_eq_true (inB n 1 8) with hi | hi
    · have hin := inB_iff hi
      by_cases hle : n ≤ 2 * (fs.length : Nat)
      · have hok : momOk fs ds n = true := by unfold momOk; rw [hl, hi, decide_eq_true hle]; rfl
        have hv : momV fs ds n = momL fs ds n.toNat := by unfold momV; rw [if_pos hok]
        rw [hok, hv]
        obtain ⟨N, rfl⟩ := Int.eq_ofNat_of_zero_le (show 0 ≤ n by omega)
        have HMO : Hid (∀ X, Below W.heap.size W X → Calls Try.prog 88 #[.agg #[.slice A fs.length c, .slice A2 ds.length c2], .int .i64 (N : Int)] X (IntsNew X (momL fs ds N))) := Lib.hid fun X hX => kiMoments_any _ _ fs ds N X (HF.out.below hX) (HD.out.below hX) hl (by omega)
        rw [hl] at HK
        rw [hi] at HI
        rw [Int.toNat_natCast]
        clear hl hi hok hv HF HD
        go_enter Try.func47, Try.ntmps47
        go_wp2_with (first | (go_at_call 86; rw [← HW.out]; refine HK.out.mono ?_; rintro e w2 ⟨rfl, hbk⟩; have e0 := (hbk.cell (p := ⟨w.heap.size, 0, none⟩) (show w.heap.size < W.heap.size by omega)).trans c0; have e1 := (hbk.cell (p := ⟨w.heap.size, 1, none⟩) (show w.heap.size < W.heap.size by omega)).trans c1) | (go_at_call 71; refine (HI.out _).mono ?_; rintro e w' ⟨rfl, rfl⟩) | (go_at_call 88; refine (HMO.out _ hbk).mono ?_; rintro e w3 ⟨v3, rfl, hr3, hb3⟩; obtain ⟨A3, c3, rfl⟩ := hr3.shape))
        go_ret2
        exact ⟨_, rfl, hr3.mono (by have := hbk.size; omega), HB.out.trans ((hbk.trans (hb3.mono hbk.size)).mono (by omega))⟩
      · have hok : momOk fs ds n = false := by unfold momOk; rw [decide_eq_false hle, Bool.and_false]
        rw [hok, momV_no hok]
        rw [hl] at HK
        rw [hi] at HI
        clear hl hi hok HF HD
        go_enter Try.func47, Try.ntmps47
        go_wp2_with (first | (go_at_call 86; rw [← HW.out]; refine HK.out.mono ?_; rintro e w2 ⟨rfl, hbk⟩; have e0 := (hbk.cell (p := ⟨w.heap.size, 0, none⟩) (show w.heap.size < W.heap.size by omega)).trans c0) | (go_at_call 71; refine (HI.out _).mono ?_; rintro e w' ⟨rfl, rfl⟩))
        go_ret2
        exact ⟨_, rfl, IRow.nil _ _, HB.out.trans (hbk.mono (by omega))⟩
    · have hok : momOk fs ds n = false := by unfold momOk; rw [hi, Bool.and_false, Bool.false_and]
      rw [hok, momV_no hok]
      rw [hl] at HK
      rw [hi] at HI
      clear hl hi hok HF HD
      go_enter Try.func47, Try.ntmps47
      go_wp2_with (first | (go_at_call 86; rw [← HW.out]; refine HK.out.mono ?_; rintro e w2 ⟨rfl, hbk⟩; have e0 := (hbk.cell (p := ⟨w.heap.size, 0, none⟩) (show w.heap.size < W.heap.size by omega)).trans c0) | (go_at_call 71; refine (HI.out _).mono ?_; rintro e w' ⟨rfl, rfl⟩))
      go_ret2
      exact ⟨_, rfl, IRow.nil _ _, HB.out.trans (hbk.mono (by omega))⟩
  · have hok : momOk fs ds n = false := by unfold momOk; rw [hl, Bool.false_and, Bool.false_and]
    rw [hok, momV_no hok]
    rw [hl] at HK
    clear hl hok HF HD
    go_enter Try.func47, Try.ntmps47
    go_wp2_with (go_at_call 86; rw [← HW.out]; refine HK.out.mono ?_; rintro e w2 ⟨rfl, hbk⟩)
    go_ret2
    exact ⟨_, rfl, IRow.nil _ _, HB.out.trans (hbk.mono (by omega))⟩
end Go.Proofs.Ytnmmgpmhpjjehaa
