/- IsLevels, weigh of the program. -/
import Derived.Test.YtnmmgpmhpjjehaaKindI
import Derived.Test.YtnmmgpmhpjjehaaLvS
namespace Go.Proofs.Ytnmmgpmhpjjehaa
open Go.RowKit
set_option linter.unusedVariables false
theorem allB_one (x lo hi : Int) : allB [x] lo hi = inB x lo hi := by
  unfold allB inB
  simp [inBd]
set_option maxRecDepth 100000 in
set_option maxHeartbeats 3200000 in
theorem isLevels_ret (v u : Value) (fs ds : List Int) (w : World) (hF : RInts w v fs) (hD : RInts w u ds) (h1 : fs.length ≤ 1048576) (h2 : ds.length ≤ 1048576) :
    Calls Try.prog 43 #[.agg #[v, u]] w (Ret w (.bool (lvB fs ds))) := by
  obtain ⟨A, c, rfl⟩ := hF.shape
  obtain ⟨A2, c2, rfl⟩ := hD.shape
  obtain ⟨w1, hw1⟩ : ∃ w1, w1 = w.alloc (.cells #[.slice A fs.length c, .slice A2 ds.length c2] 45) := ⟨_, rfl⟩
  have hb1 : Below w.heap.size w w1 := by rw [hw1]; exact (Below.refl _ _).alloc (Nat.le_refl _) _
  have hz1 : w1.heap.size = w.heap.size + 1 := by rw [hw1]; simp
  have HI : Hid (Calls Try.prog 68 #[.int .i64 1, .int .i64 6, .slice (some ⟨w.heap.size + 1, 0, none⟩) 1 1] (w1.alloc (.cells #[.int .i64 (fs.length : Nat)] 3)) fun e w' => e = .returned (.bool (inB (fs.length : Nat) 1 6)) ∧ (w1.alloc (.cells #[.int .i64 (fs.length : Nat)] 3)) = w') := Lib.hid (by
    have := within_any _ [(fs.length : Nat)] 1 6 _ (lit1 w1 (fs.length : Nat)) (by simp)
    rwa [allB_one, hz1] at this)
  have hb2 : Below w.heap.size w (w1.alloc (.cells #[.int .i64 (fs.length : Nat)] 3)) := hb1.trans ((Below.refl _ _).alloc (by omega) _)
  have HA := Lib.hid (within_any _ fs (-5) 5 _ (hF.below hb2) h1)
  have HB := Lib.hid (within_any _ ds 1 5 _ (hD.below hb2) h2)
  have c0 : w1.cell? ⟨w.heap.size, 0, none⟩ = some (.slice A fs.length c) := by rw [hw1]; simp [go_sem]
  have c1 : w1.cell? ⟨w.heap.size, 1, none⟩ = some (.slice A2 ds.length c2) := by rw [hw1]; simp [go_sem]
  have HW := Lib.hid hw1
  have tok1 : True := trivial
  have tok2 : True := trivial
  have HB1 := Lib.hid hb1
  have HB2 := Lib.hid hb2
  clear hF hD hw1 hb1 hb2
  unfold lvB
  generalize allB fs (-5) 5 = bF at *
  generalize allB ds 1 5 = bD at *
  rcases Bool.eq_false_or_eq_true (((ds.length : Nat) : Int) == ((fs.length : Nat) : Int)) with hq | hq
  · have hq2 : (((fs.length : Nat) : Int) == ((ds.length : Nat) : Int)) = true := by rw [beq_iff_eq] at hq ⊢; exact hq.symm
    rw [hq]
    rcases Bool.eq_false_or_eq_true (inB (fs.length : Nat) 1 6) with hi | hi
    · rw [hi] at HI ⊢
      cases bF with
      | true =>
        go_enter Try.func43, Try.ntmps43
        go_wp2_with fail
        rw [← HW.out]
        go_wp2_with fail
        go_at_call 68
        with_reducible refine HI.out.mono ?_
        rintro e w' ⟨rfl, rfl⟩
        go_wp2_with fail
        go_at_call 68
        with_reducible refine HA.out.mono ?_
        rintro e w' ⟨rfl, rfl⟩
        go_wp2_with fail
        go_at_call 68
        with_reducible refine HB.out.mono ?_
        rintro e w' ⟨rfl, rfl⟩
        go_wp2_with fail
        go_ret
        exact ⟨by simp, HB2.out⟩
      | false =>
        go_enter Try.func43, Try.ntmps43
        go_wp2_with fail
        rw [← HW.out]
        go_wp2_with fail
        go_at_call 68
        with_reducible refine HI.out.mono ?_
        rintro e w' ⟨rfl, rfl⟩
        go_wp2_with fail
        go_at_call 68
        with_reducible refine HA.out.mono ?_
        rintro e w' ⟨rfl, rfl⟩
        go_wp2_with fail
        go_ret
        exact ⟨by simp, HB2.out⟩
    · rw [hi] at HI ⊢
      go_enter Try.func43, Try.ntmps43
      go_wp2_with fail
      rw [← HW.out]
      go_wp2_with fail
      go_at_call 68
      with_reducible refine HI.out.mono ?_
      rintro e w' ⟨rfl, rfl⟩
      go_wp2_with fail
      go_ret
      exact ⟨by simp, HB2.out⟩
  · have hq2 : (((fs.length : Nat) : Int) == ((ds.length : Nat) : Int)) = false := by
      rw [beq_eq_false_iff_ne] at hq ⊢
      exact fun e => hq e.symm
    rw [hq, Bool.and_false, Bool.false_and, Bool.false_and]
    go_enter Try.func43, Try.ntmps43
    go_wp2
    go_ret
    exact ⟨rfl, by rw [← HW.out]; exact HB1.out⟩
/-- what weigh answers: 85 up, 70 flat, 68 down from a height above 0 -/
def wgX (fs ds : List Int) (c : UInt8) (h : Nat) : Int := if c = 85 then 1 else if c = 70 then (if h < fs.length then fs.getD h 0 else 0) else (if 1 ≤ h ∧ h ≤ ds.length then ds.getD (h - 1) 0 else 0)
def wgY (fs ds : List Int) (c : UInt8) (h : Nat) : Bool := if c = 85 then true else if c = 70 then decide (h < fs.length) else decide (1 ≤ h ∧ h ≤ ds.length)
set_option maxRecDepth 100000 in
set_option maxHeartbeats 3200000 in
theorem weigh_any (v u : Value) (fs ds : List Int) (c : UInt8) (h : Nat) (w : World) (hF : RInts w v fs) (hD : RInts w u ds) (h1 : fs.length ≤ 1048576) (h2 : ds.length ≤ 1048576) (hc : c = 85 ∨ c = 70 ∨ (c = 68 ∧ 1 ≤ h)) (hh : h ≤ 1048576) :
    Calls Try.prog 87 #[.agg #[v, u], .int .u8 (c.toNat : Int), .int .i64 (h : Int)] w (Ret w (.tuple #[.int .i64 (wgX fs ds c h), .bool (wgY fs ds c h)])) := by
  obtain ⟨A, c1, rfl⟩ := hF.shape
  obtain ⟨A2, c2, rfl⟩ := hD.shape
  rcases hc with rfl | rfl | ⟨rfl, h1h⟩
  · have e1 : wgX fs ds 85 h = 1 := rfl
    have e2 : wgY fs ds 85 h = true := rfl
    rw [e1, e2]
    clear e1 e2 hF hD
    go_enter Try.func87, Try.ntmps87
    go_wp2
    go_ret2
    exact ⟨rfl, (Below.refl _ _).alloc (Nat.le_refl _) _⟩
  · by_cases hl : h < fs.length
    · have e1 : wgX fs ds 70 h = fs.getD h 0 := by unfold wgX; rw [if_neg (by decide), if_pos rfl, if_pos hl]
      have e2 : wgY fs ds 70 h = true := by unfold wgY; rw [if_neg (by decide), if_pos rfl, decide_eq_true hl]
      rw [e1, e2]
      obtain ⟨q1, o1, d1, hv1, hq1, hcF⟩ := hF.cells (by omega)
      have hA : A = some ⟨q1, o1, none⟩ := by injection hv1
      subst hA
      have k0 := (((Below.refl w.heap.size w).alloc (Nat.le_refl _) (.cells #[.slice (some ⟨q1, o1, none⟩) fs.length c1, .slice A2 ds.length c2] 45)).cell (p := ⟨q1, o1 + h, none⟩) hq1).trans (hcF h hl)
      clear e1 e2 hF hD hv1 hcF
      generalize fs.getD h 0 = x at *
      go_enter Try.func87, Try.ntmps87
      go_wp2
      go_ret2
      exact ⟨rfl, (Below.refl _ _).alloc (Nat.le_refl _) _⟩
    · have e1 : wgX fs ds 70 h = 0 := by unfold wgX; rw [if_neg (by decide), if_pos rfl, if_neg hl]
      have e2 : wgY fs ds 70 h = false := by unfold wgY; rw [if_neg (by decide), if_pos rfl, decide_eq_false hl]
      rw [e1, e2]
      clear e1 e2 hF hD
      go_enter Try.func87, Try.ntmps87
      go_wp2
      go_ret2
      exact ⟨rfl, (Below.refl _ _).alloc (Nat.le_refl _) _⟩
  · by_cases hl : h ≤ ds.length
    · have e1 : wgX fs ds 68 h = ds.getD (h - 1) 0 := by unfold wgX; rw [if_neg (by decide), if_neg (by decide), if_pos ⟨h1h, hl⟩]
      have e2 : wgY fs ds 68 h = true := by unfold wgY; rw [if_neg (by decide), if_neg (by decide), decide_eq_true ⟨h1h, hl⟩]
      rw [e1, e2]
      obtain ⟨p, rfl⟩ : ∃ p, h = p + 1 := ⟨h - 1, by omega⟩
      rw [Nat.add_sub_cancel]
      obtain ⟨q1, o1, d1, hv1, hq1, hcF⟩ := hD.cells (by omega)
      have hA : A2 = some ⟨q1, o1, none⟩ := by injection hv1
      subst hA
      have k0 := (((Below.refl w.heap.size w).alloc (Nat.le_refl _) (.cells #[.slice A fs.length c1, .slice (some ⟨q1, o1, none⟩) ds.length c2] 45)).cell (p := ⟨q1, o1 + p, none⟩) hq1).trans (hcF p (by omega))
      clear e1 e2 hF hD hv1 hcF
      generalize ds.getD p 0 = x at *
      go_enter Try.func87, Try.ntmps87
      go_wp2
      go_ret2
      exact ⟨rfl, (Below.refl _ _).alloc (Nat.le_refl _) _⟩
    · have e1 : wgX fs ds 68 h = 0 := by unfold wgX; rw [if_neg (by decide), if_neg (by decide), if_neg (by omega)]
      have e2 : wgY fs ds 68 h = false := by unfold wgY; rw [if_neg (by decide), if_neg (by decide), decide_eq_false (by omega)]
      rw [e1, e2]
      clear e1 e2 hF hD
      go_enter Try.func87, Try.ntmps87
      go_wp2
      go_ret2
      exact ⟨rfl, (Below.refl _ _).alloc (Nat.le_refl _) _⟩
end Go.Proofs.Ytnmmgpmhpjjehaa
