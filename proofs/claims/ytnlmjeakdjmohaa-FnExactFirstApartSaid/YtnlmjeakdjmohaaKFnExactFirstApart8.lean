/- Pack 8 of what FnExactFirstApart needs: GdS, RcIn. -/
import Derived.Test.YtnlmjeakdjmohaaKFnExactFirstApart7
import Derived.IntWalk
/- Cells that are only read; the model's ncGood. -/
namespace Go.Proofs.Ytnlmjeakdjmohaa
open Go.RowKit
set_option linter.unusedVariables false
theorem inBd_if6 {a lo hi : Int} (h : inBd lo hi a = true) : lo ≤ a ∧ a ≤ hi := by unfold inBd at h; simpa only [Bool.and_eq_true, decide_eq_true_eq] using h
/-- a slice of cells that is only read: X, Y, X, Y, .. -/
structure RCels (w : World) (v : Value) (n : Nat) (xs : List Int) : Prop where
  shape : ∃ A c, v = .slice A n c
  room : ∀ A k c, v = .slice A k c → k ≤ c ∧ c ≤ maxLen
  cells : 0 < n → ∃ g o c, v = .slice (some ⟨g, o, none⟩) n c ∧ g < w.heap.size ∧ ∀ j, j < n * 2 → w.cell? ⟨g, o + j, none⟩ = some (.int .i64 (xs.getD j 0))
theorem RCels.below {w w' : World} {v : Value} {n : Nat} {xs : List Int} (h : RCels w v n xs) (hb : Below w.heap.size w w') : RCels w' v n xs :=
  ⟨h.shape, h.room, fun hx => by
    obtain ⟨g, o, c, hv, hg, hc⟩ := h.cells hx
    exact ⟨g, o, c, hv, Nat.lt_of_lt_of_le hg hb.size, fun j hj => (hb.cell (p := ⟨g, o + j, none⟩) hg).trans (hc j hj)⟩⟩
def gdC (xs : List Int) (i : Nat) : Bool := cellB (xs.getD (i * 2) 0) (xs.getD (i * 2 + 1) 0)
def gdB (n : Nat) (xs : List Int) (m : Nat) (ys : List Int) : Bool := (inBd 1 4 (n : Int) && m == n) && (List.range n).all fun i => gdC xs i && gdC ys i
theorem gdB_no {n m : Nat} {xs ys : List Int} {i : Nat} (hi : i < n) (h : (gdC xs i && gdC ys i) = false) : gdB n xs m ys = false := by
  unfold gdB
  rw [Bool.and_eq_false_iff]
  refine .inr ?_
  rw [← Bool.not_eq_true, List.all_eq_true]
  intro h2
  have h3 := h2 i (List.mem_range.mpr hi)
  rw [h] at h3
  exact absurd h3 (by decide)
theorem gdB_yes {n : Nat} {xs ys : List Int} (h0 : inBd 1 4 (n : Int) = true) (h : ∀ k, k < n → (gdC xs k && gdC ys k) = true) : gdB n xs n ys = true := by
  unfold gdB
  rw [h0, beq_self_eq_true, Bool.true_and, Bool.true_and, List.all_eq_true]
  exact fun k hk => h k (List.mem_range.mp hk)
/-- both lists of cells -/
structure Gd (w : World) (v1 v2 : Value) (n m : Nat) (xs ys : List Int) (X : World) : Prop where
  a : RCels X v1 n xs
  b : RCels X v2 m ys
  below : Below w.heap.size w X
theorem Gd.kept {w X X' : World} {v1 v2 : Value} {n m : Nat} {xs ys : List Int} (h : Gd w v1 v2 n m xs ys X) (hb : Below X.heap.size X X') : Gd w v1 v2 n m xs ys X' := ⟨h.a.below hb, h.b.below hb, h.below.trans (hb.mono h.below.size)⟩
set_option maxRecDepth 100000 in
set_option maxHeartbeats 2000000 in
theorem ncGood_any (v1 v2 : Value) (n m : Nat) (xs ys : List Int) (w : World) (h1 : RCels w v1 n xs) (h2 : RCels w v2 m ys) (hn : n ≤ 1048576) (hm : m ≤ 1048576) :
    Calls Try.prog 111 #[v1, v2] w (Ret w (.bool (gdB n xs m ys))) := by
  have HI : Hid (∀ w, Calls Try.prog 125 #[.int .i64 (n : Int), .int .i64 1, .int .i64 4] w fun e w' => e = .returned (.bool (inBd 1 4 (n : Int))) ∧ w = w') := Lib.hid fun w => in_any (n : Int) 1 4 w
  have HC : Hid (∀ x y w, Calls Try.prog 80 #[celV x y] w (Ret w (.bool (cellB x y)))) := Lib.hid ncCell_any
  obtain ⟨A1, p1, rfl⟩ := h1.shape
  obtain ⟨A2, p2, rfl⟩ := h2.shape
  rcases Bool.eq_false_or_eq_true (inBd 1 4 (n : Int)) with a1 | a1
  case inr =>
    have e1 : gdB n xs m ys = false := by unfold gdB; rw [a1]; rfl
    rw [e1]
    rw [a1] at HI
    clear e1 a1 h1 h2
    go_enter Try.func111, Try.ntmps111
    go_wp2_with (go_at_call 125; refine (HI.out _).mono ?_; rintro e w' ⟨rfl, rfl⟩)
    go_ret
    exact ⟨rfl, Below.refl _ _⟩
  have hn4 := inBd_if6 a1
  by_cases hmn : m = n
  case neg =>
    have e1 : gdB n xs m ys = false := by unfold gdB; rw [show (m == n) = false from beq_eq_false_iff_ne.2 hmn, Bool.and_false]; rfl
    have q1 : ((m : Int) != (n : Int)) = true := by simpa using fun h : (m : Int) = (n : Int) => hmn (by omega)
    rw [e1]
    rw [a1] at HI
    clear e1 a1 h1 h2
    go_enter Try.func111, Try.ntmps111
    go_wp2_with (go_at_call 125; refine (HI.out _).mono ?_; rintro e w' ⟨rfl, rfl⟩)
    go_ret
    exact ⟨rfl, Below.refl _ _⟩
  subst hmn
  have HY : Hid ((∀ k, k < m → (gdC xs k && gdC ys k) = true) → gdB m xs m ys = true) := Lib.hid (gdB_yes a1)
  have HN : Hid (∀ k, k < m → (gdC xs k && gdC ys k) = false → gdB m xs m ys = false) := Lib.hid fun k hk h => gdB_no hk h
  have HG : Hid (Gd w (.slice A1 m p1) (.slice A2 m p2) m m xs ys w) := Lib.hid ⟨h1, h2, Below.refl _ _⟩
  obtain ⟨g1, o1, c1, e1, _, _⟩ := h1.cells (by omega)
  obtain ⟨g2, o2, c2, e2, _, _⟩ := h2.cells (by omega)
  injection e1 with e1 _ e3
  injection e2 with e2 _ e4
  subst e1 e2 e3 e4
  rw [a1] at HI
  clear a1 h1 h2
  generalize gdB m xs m ys = T at *
  go_enter Try.func111, Try.ntmps111
  go_wp2_with (go_at_call 125; refine (HI.out _).mono ?_; rintro e w' ⟨rfl, rfl⟩)
  go_loopw [20] (fun i wr => ∃ k : Nat, k ≤ m ∧ i = .int .i64 (k : Int) ∧ (∀ j, j < k → (gdC xs j && gdC ys j) = true) ∧ Gd w (.slice (some ⟨g1, o1, none⟩) m p1) (.slice (some ⟨g2, o2, none⟩) m p2) m m xs ys wr) (fun i _ => m - (intOf i).toNat)
  case atStart => exact ⟨0, Nat.zero_le _, rfl, fun j hj => absurd hj (by omega), HG.out⟩
  case round =>
    obtain ⟨k, hk, rfl, hall, hgd⟩ := hrel
    clear HG
    by_cases hlt : k < m
    · have CL : ∀ (v : Value) (zs : List Int) (g o c : Nat) (X : World), RCels X (.slice (some ⟨g, o, none⟩) m c) m zs → X.cell? ⟨g, o + k * 2, none⟩ = some (.int .i64 (zs.getD (k * 2) 0)) ∧ X.cell? ⟨g, o + k * 2 + 1, none⟩ = some (.int .i64 (zs.getD (k * 2 + 1) 0)) := fun v zs g o c X h => by
        obtain ⟨g', o', c', e, _, hc⟩ := h.cells (by omega)
        injection e with e _ e3
        injection e with e
        injection e with e1 e2
        subst e1 e2
        exact ⟨hc (k * 2) (by omega), hc (k * 2 + 1) (by omega)⟩
      have HCL := Lib.hid CL
      have i1 : (k : Int) < (m : Int) := by omega
      have i2 : 0 ≤ (k : Int) := by omega
      have c0 := (CL (.bool true) _ _ _ _ _ hgd.a).1
      have c1 := (CL (.bool true) _ _ _ _ _ hgd.a).2
      have HX : Hid (gdC xs k = cellB (xs.getD (k * 2) 0) (xs.getD (k * 2 + 1) 0)) := Lib.hid rfl
      have HYY : Hid (gdC ys k = cellB (ys.getD (k * 2) 0) (ys.getD (k * 2 + 1) 0)) := Lib.hid rfl
      have HGD := Lib.hid hgd
      have HALL := Lib.hid hall
      clear hgd hall CL
      generalize xs.getD (k * 2) 0 = x0 at *
      generalize xs.getD (k * 2 + 1) 0 = x1 at *
      have HG1 := Lib.hid (HGD.out.kept ((Below.refl _ _).alloc (Nat.le_refl _) (.cells #[.int .i64 x0, .int .i64 x1] 39)))
      rcases Bool.eq_false_or_eq_true (cellB x0 x1) with b1 | b1
      · have HC1 : Hid (∀ w, Calls Try.prog 80 #[celV x0 x1] w (Ret w (.bool true))) := Lib.hid fun w => b1 ▸ HC.out x0 x1 w
        go_wp2_with fail
        refine (HC1.out _).mono ?_
        rintro e w1 ⟨rfl, hb1⟩
        have hgd := HG1.out.kept hb1
        have d0 := (HCL.out (.bool true) _ _ _ _ _ hgd.b).1
        have d1 := (HCL.out (.bool true) _ _ _ _ _ hgd.b).2
        have HG2 := Lib.hid hgd
        clear hgd hb1 c0 c1
        generalize ys.getD (k * 2) 0 = y0 at *
        generalize ys.getD (k * 2 + 1) 0 = y1 at *
        rcases Bool.eq_false_or_eq_true (cellB y0 y1) with b2 | b2
        · have HC2 : Hid (∀ w, Calls Try.prog 80 #[celV y0 y1] w (Ret w (.bool true))) := Lib.hid fun w => b2 ▸ HC.out y0 y1 w
          have HB : Hid ((gdC xs k && gdC ys k) = true) := Lib.hid (by rw [HX.out, HYY.out, b1, b2]; rfl)
          clear b1 b2
          go_wp2_with fail
          refine (HC2.out _).mono ?_
          rintro e w2 ⟨rfl, hb2⟩
          have HG3 := Lib.hid (HG2.out.kept hb2)
          clear hb2
          go_wp2_with fail
          go_roundw
          case rel => exact ⟨k + 1, by omega, by go_num, fun j hj => by
            rcases Nat.lt_or_ge j k with h | h
            · exact HALL.out j h
            · obtain rfl : j = k := by omega
              exact HB.out, HG3.out⟩
          case measure => first | (simp [intOf]; done) | (simp [intOf]; omega)
        · have HC2 : Hid (∀ w, Calls Try.prog 80 #[celV y0 y1] w (Ret w (.bool false))) := Lib.hid fun w => b2 ▸ HC.out y0 y1 w
          have HT := Lib.hid (HN.out k hlt (by rw [HX.out, HYY.out, b1, b2]; rfl))
          clear b1 b2
          go_wp2_with fail
          refine (HC2.out _).mono ?_
          rintro e w2 ⟨rfl, hb2⟩
          have HG3 := Lib.hid (HG2.out.kept hb2)
          clear hb2
          go_wp2_with fail
          go_ret
          exact ⟨by rw [HT.out]; rfl, HG3.out.below⟩
      · have HC1 : Hid (∀ w, Calls Try.prog 80 #[celV x0 x1] w (Ret w (.bool false))) := Lib.hid fun w => b1 ▸ HC.out x0 x1 w
        have HT := Lib.hid (HN.out k hlt (by rw [HX.out, b1]; rfl))
        clear b1
        go_wp2_with fail
        refine (HC1.out _).mono ?_
        rintro e w1 ⟨rfl, hb1⟩
        have HG2 := Lib.hid (HG1.out.kept hb1)
        clear hb1
        go_wp2_with fail
        go_ret
        exact ⟨by rw [HT.out]; rfl, HG2.out.below⟩
    · obtain rfl : k = m := by omega
      have HT := Lib.hid (HY.out hall)
      have HB := Lib.hid hgd.below
      clear hall hgd
      go_wp2_with fail
      go_ret
      exact ⟨by rw [HT.out]; rfl, HB.out⟩
end Go.Proofs.Ytnlmjeakdjmohaa

/- Cells that come in: a slice of cells that is only read. -/
namespace Go.Proofs.Ytnlmjeakdjmohaa
open Go.RowKit
set_option linter.unusedVariables false
theorem RCels.nil (w : World) (xs : List Int) : RCels w (.slice none 0 0) 0 xs :=
  ⟨⟨_, _, rfl⟩, fun A k c e => by injection e with e1 e2 e3; subst e2 e3; exact ⟨Nat.le_refl _, by simp [maxLen]⟩, fun h => absurd h (by simp)⟩
theorem RCels.of_cells (w : World) (a : Addr) (len cap : Nat) (hl : len ≤ cap) (hm : cap ≤ maxLen) (hc : ∀ j, j < len * 2 → ∃ z : Int, w.cell? (a.add j) = some (.int .i64 z)) : ∃ xs, RCels w (.slice (some a) len cap) len xs := by
  refine ⟨(List.range (len * 2)).map (fun j => intOf ((w.cell? (a.add j)).getD (.bool true))), ⟨⟨_, _, rfl⟩, fun A k c e => by injection e with e1 e2 e3; subst e2 e3; exact ⟨hl, hm⟩, fun hx => ?_⟩⟩
  obtain ⟨b, off, spot⟩ := a
  obtain ⟨z0, h0⟩ := hc 0 (by omega)
  have hspot : spot = none := by simpa [Addr.add] using World.cell?_spot h0
  subst hspot
  refine ⟨b, off, cap, rfl, World.block_lt_of_cell? w _ h0, fun j hj => ?_⟩
  obtain ⟨z, hz⟩ := hc j hj
  have e : (⟨b, off, none⟩ : Addr).add j = ⟨b, off + j, none⟩ := by unfold Addr.add; split <;> simp_all
  rw [List.getD_eq_getElem?_getD, List.getElem?_map, List.getElem?_range hj]
  rw [e] at hz
  simp [e, hz, intOf]
def szC (n : Nat) (left : Int) : Int := if left - (n : Int) < 0 then -1 else left - (n : Int)
set_option maxHeartbeats 800000 in
theorem szCellS_any (v : Value) (n : Nat) (xs : List Int) (left : Int) (w : World) (h : RCels w v n xs) (hl : 0 ≤ left ∧ left ≤ 1048576) : Calls Try.prog 21 #[v, .int .i64 left] w fun e w' => e = .returned (.int .i64 (szC n left)) ∧ w = w' := by
  obtain ⟨A, c, rfl⟩ := h.shape
  obtain ⟨m1, m2⟩ := h.room _ _ _ rfl
  have m3 : maxLen ≤ 9223372036854775807 := by simp [maxLen]
  have h1 : 0 ≤ (n : Int) := by omega
  have h2 : (n : Int) ≤ 9223372036854775807 := by omega
  clear h m1 m2 m3
  unfold szC
  by_cases hlt : left - (n : Int) < 0
  · rw [if_pos hlt]
    go_enter Try.func21, Try.ntmps21
    go_wp2
    go_ret
    exact ⟨rfl, rfl⟩
  · rw [if_neg hlt]
    go_enter Try.func21, Try.ntmps21
    go_wp2
    go_ret
    exact ⟨rfl, rfl⟩
end Go.Proofs.Ytnlmjeakdjmohaa
