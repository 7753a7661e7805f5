/- Pack 17 of what FnExactVotesOfTable needs: EqI, RatioMath. -/
import Derived.Test.YtmfcknlpbliehaaDoorKFnExactVotesOfTable16
import Derived.Deep.QuietTactic
import Derived.BigQuiet
/- slices.Equal of ints, slices.EqualFunc of rows. -/
namespace Go.Proofs.YtmfcknlpbliehaaDoor
open Go.RowKit
set_option linter.unusedVariables false
theorem list_extI {a b : List Int} (hl : a.length = b.length) (h : ∀ p, p < a.length → a.getD p 0 = b.getD p 0) : a = b := by
  apply List.ext_getElem hl
  intro p h1 h2
  have := h p h1
  rw [List.getD_eq_getElem?_getD, List.getD_eq_getElem?_getD, List.getElem?_eq_getElem h1, List.getElem?_eq_getElem h2] at this
  exact this
theorem list_extL {a b : List (List Int)} (hl : a.length = b.length) (h : ∀ p, p < a.length → a.getD p [] = b.getD p []) : a = b := by
  apply List.ext_getElem hl
  intro p h1 h2
  have := h p h1
  rw [List.getD_eq_getElem?_getD, List.getD_eq_getElem?_getD, List.getElem?_eq_getElem h1, List.getElem?_eq_getElem h2] at this
  exact this
set_option maxRecDepth 100000 in
set_option maxHeartbeats 2000000 in
theorem eqI_any (v1 v2 : Value) (xs ys : List Int) (w : World) (h1 : RInts w v1 xs) (h2 : RInts w v2 ys) (l1 : xs.length ≤ 1048576) (l2 : ys.length ≤ 1048576) :
    Calls Tryd.prog 27 #[v1, v2] w (Ret w (.bool (decide (xs = ys)))) := by
  obtain ⟨A1, c1, rfl⟩ := h1.shape
  obtain ⟨A2, c2, rfl⟩ := h2.shape
  by_cases hn : xs.length = ys.length
  case neg =>
    have hd : decide (xs = ys) = false := decide_eq_false fun e => hn (by rw [e])
    rw [hd]
    have q : ((xs.length : Int) == (ys.length : Int)) = false := by simp; omega
    have q2 : (xs.length == ys.length) = false := by simpa using hn
    clear h1 h2 hd hn
    go_enter Tryd.func27, Tryd.ntmps27
    go_wp2
    go_ret
    exact ⟨rfl, Below.refl _ _⟩
  rw [← hn]
  have H1 := Lib.hid h1
  have H2 := Lib.hid h2
  obtain ⟨n, hx⟩ : ∃ n, xs.length = n := ⟨_, rfl⟩
  have HX := Lib.hid hx
  have HY := Lib.hid (hn.symm.trans hx)
  rw [hx] at l1 ⊢
  clear h1 h2 hn hx l2
  go_enter Tryd.func27, Tryd.ntmps27
  go_wp2
  go_loopw [13] (fun i wr => ∃ k : Nat, k ≤ n ∧ i = .int .i64 (k : Int) ∧ (∀ j, j < k → xs.getD j 0 = ys.getD j 0) ∧ Below w.heap.size w wr) (fun i _ => n - (intOf i).toNat)
  case atStart => exact ⟨0, Nat.zero_le _, rfl, fun j hj => absurd hj (by omega), Below.refl _ _⟩
  case round =>
    obtain ⟨k, hk, rfl, hall, hb⟩ := hrel
    have HB := Lib.hid hb
    have H1 := Lib.hid (H1.out.below hb)
    have H2 := Lib.hid (H2.out.below hb)
    clear hb
    have HA := Lib.hid hall
    clear hall
    by_cases hlt : k < n
    · obtain ⟨g1, o1, d1, e1, hg1, hc1⟩ := H1.out.cells (by rw [HX.out]; omega)
      obtain ⟨g2, o2, d2, e2, hg2, hc2⟩ := H2.out.cells (by rw [HY.out]; omega)
      have a1 : A1 = some ⟨g1, o1, none⟩ := by injection e1
      have a2 : A2 = some ⟨g2, o2, none⟩ := by injection e2
      subst a1 a2
      have k1 := hc1 k (by rw [HX.out]; exact hlt)
      have k2 := hc2 k (by rw [HY.out]; exact hlt)
      have i1 : (k : Int) < (n : Int) := by omega
      clear e1 e2 hc1 hc2
      by_cases he : xs.getD k 0 = ys.getD k 0
      · have HN : Hid (∀ j, j < k + 1 → xs.getD j 0 = ys.getD j 0) := Lib.hid fun j hj => by
          by_cases x : j = k
          · subst x; exact he
          · exact HA.out j (by omega)
        rw [he] at k1
        generalize ys.getD k 0 = y at *
        clear he
        go_wp2_with fail
        go_quiet (fail)
        go_wp2
        go_roundw
        case rel => exact ⟨k + 1, by omega, by go_num, HN.out, below_drewN HB.out _⟩
        case measure => first | (simp [intOf]; done) | (simp [intOf]; omega)
      · have HF : Hid (decide (xs = ys) = false) := Lib.hid (decide_eq_false fun e => he (by rw [e]))
        have q1 : (xs.getD k 0 == ys.getD k 0) = false := by simpa using he
        generalize ys.getD k 0 = y at *
        generalize xs.getD k 0 = x at *
        clear he
        go_wp2_with fail
        go_quiet (fail)
        go_wp2
        go_ret
        exact ⟨congrArg (fun b => Ending.returned (.bool b)) HF.out.symm, below_drewN HB.out _⟩
    · obtain rfl : k = n := by omega
      have HF : Hid (decide (xs = ys) = true) := Lib.hid (decide_eq_true (list_extI (HX.out.trans HY.out.symm) fun p hp => HA.out p (by rw [← HX.out]; exact hp)))
      go_wp2
      go_ret
      exact ⟨congrArg (fun b => Ending.returned (.bool b)) HF.out.symm, HB.out⟩
set_option maxRecDepth 100000 in
set_option maxHeartbeats 2000000 in
theorem eqRows_any (v1 v2 : Value) (xss yss : List (List Int)) (w : World) (h1 : LRows w v1 xss) (h2 : LRows w v2 yss) (l1 : xss.length = 4) (l2 : yss.length = 4) (b1 : ∀ k, k < 4 → (xss.getD k []).length ≤ 1048576) (b2 : ∀ k, k < 4 → (yss.getD k []).length ≤ 1048576) :
    Calls Tryd.prog 26 #[v1, v2, .func (.func 27) #[] #[]] w (Ret w (.bool (decide (xss = yss)))) := by
  obtain ⟨g1, o1, c1, rfl, hg1, hc1⟩ := h1.cells (by omega)
  obtain ⟨g2, o2, c2, rfl, hg2, hc2⟩ := h2.cells (by omega)
  rw [l1] at hc1 ⊢
  rw [l2] at hc2 ⊢
  have HC1 := Lib.hid hc1
  have HC2 := Lib.hid hc2
  have L1 := Lib.hid l1
  have L2 := Lib.hid l2
  have B1 := Lib.hid b1
  have B2 := Lib.hid b2
  clear h1 h2 l1 l2 b1 b2 hc1 hc2
  go_enter Tryd.func26, Tryd.ntmps26
  go_wp2
  go_loopw [17] (fun i wr => ∃ k : Nat, k ≤ 4 ∧ i = .int .i64 (k : Int) ∧ (∀ j, j < k → xss.getD j [] = yss.getD j []) ∧ Below w.heap.size w wr) (fun i _ => 4 - (intOf i).toNat)
  case atStart => exact ⟨0, Nat.zero_le _, rfl, fun j hj => absurd hj (by omega), Below.refl _ _⟩
  case round =>
    obtain ⟨k, hk, rfl, hall, hb⟩ := hrel
    have HA := Lib.hid hall
    have HB := Lib.hid hb
    clear hall
    by_cases hlt : k < 4
    · obtain ⟨u1, k1, r1⟩ := HC1.out k hlt
      obtain ⟨u2, k2, r2⟩ := HC2.out k hlt
      have e1 := (hb.cell (p := ⟨g1, o1 + k, none⟩) hg1).trans k1
      have e2 := (hb.cell (p := ⟨g2, o2 + k, none⟩) hg2).trans k2
      have HE := Lib.hid (eqI_any u1 u2 _ _ wr (r1.below hb) (r2.below hb) (B1.out k hlt) (B2.out k hlt))
      have i1 : (k : Int) < 4 := by omega
      clear k1 k2 r1 r2 hb
      by_cases he : xss.getD k [] = yss.getD k []
      · rw [decide_eq_true he] at HE
        have HN : Hid (∀ j, j < k + 1 → xss.getD j [] = yss.getD j []) := Lib.hid fun j hj => by
          by_cases x : j = k
          · subst x; exact he
          · exact HA.out j (by omega)
        clear he
        go_wp2_with fail
        refine HE.out.mono ?_
        rintro e w2 ⟨rfl, hb2⟩
        have HB2 := Lib.hid (HB.out.trans (hb2.mono HB.out.size))
        clear hb2
        go_wp2_with fail
        go_roundw
        case rel => exact ⟨k + 1, by omega, by go_num, HN.out, HB2.out⟩
        case measure => first | (simp [intOf]; done) | (simp [intOf]; omega)
      · rw [decide_eq_false he] at HE
        have HF : Hid (decide (xss = yss) = false) := Lib.hid (decide_eq_false fun e => he (by rw [e]))
        clear he
        go_wp2_with fail
        refine HE.out.mono ?_
        rintro e w2 ⟨rfl, hb2⟩
        have HB2 := Lib.hid (HB.out.trans (hb2.mono HB.out.size))
        clear hb2
        go_wp2_with fail
        go_ret
        exact ⟨congrArg (fun b => Ending.returned (.bool b)) HF.out.symm, HB2.out⟩
    · obtain rfl : k = 4 := by omega
      have HF : Hid (decide (xss = yss) = true) := Lib.hid (decide_eq_true (list_extL (L1.out.trans L2.out.symm) fun p hp => HA.out p (by rw [← L1.out]; exact hp)))
      clear hb
      go_wp2
      go_ret
      exact ⟨congrArg (fun b => Ending.returned (.bool b)) HF.out.symm, HB.out⟩
end Go.Proofs.YtmfcknlpbliehaaDoor

/- Fractions in lowest terms. -/
namespace Go.Proofs.YtmfcknlpbliehaaDoor
open Go.RowKit
theorem gcd_step {x y g : Nat} (h : Nat.gcd x y = g) : Nat.gcd y (x % y) = g := by
  rw [← h, Nat.gcd_comm x y, Nat.gcd_rec y x, Nat.gcd_comm]
theorem gcd_end {x g : Nat} (h : Nat.gcd x 0 = g) : x = g := by simpa using h
theorem cast_mod (x y : Nat) : (x : Int) % (y : Int) = ((x % y : Nat) : Int) := (Int.natCast_emod x y).symm
theorem cast_div (x y : Nat) : (x : Int) / (y : Int) = ((x / y : Nat) : Int) := (Int.natCast_ediv x y).symm
theorem div_bd (p x : Nat) (h : p ≤ 70368744177664) : 0 ≤ (p : Int) / (x : Int) ∧ (p : Int) / (x : Int) ≤ 70368744177664 := by
  rw [cast_div]
  have := Nat.div_le_self p x
  generalize p / x = z at *
  omega
def numR (p q : Nat) : Int := ((p / Nat.gcd p q : Nat) : Int)
def denR (p q : Nat) : Int := ((q / Nat.gcd p q : Nat) : Int)
end Go.Proofs.YtmfcknlpbliehaaDoor
