/- Pack 21 of what FnExactAllPairsApart needs: MtS, DmS. -/
import Derived.Test.YtnlmjeakdjmohaaKFnExactAllPairsApart20
import Derived.Deep.RegionHeld3
/- The model's ncMeet. -/
namespace Go.Proofs.Ytnlmjeakdjmohaa
open Go.RowKit
set_option linter.unusedVariables false
/-- the first j from which on a cell of the second list is this one -/
def mtJ (xs ys : List Int) (i : Nat) : Nat → Nat → Option Nat
  | 0, _ => none
  | f + 1, j => if xs.getD (i * 2) 0 = ys.getD (j * 2) 0 ∧ xs.getD (i * 2 + 1) 0 = ys.getD (j * 2 + 1) 0 then some j else mtJ xs ys i f (j + 1)
def mtI (xs ys : List Int) (m : Nat) : Nat → Nat → Option (Nat × Nat)
  | 0, _ => none
  | f + 1, i => match mtJ xs ys i m 0 with
    | some j => some (i, j)
    | none => mtI xs ys m f (i + 1)
def mtV : Option (Nat × Nat) → Value
  | none => .tuple #[.int .i64 0, .int .i64 0, .bool false]
  | some (i, j) => .tuple #[.int .i64 (i : Int), .int .i64 (j : Int), .bool true]
theorem mtJ_yes {xs ys : List Int} {i f j : Nat} (h : xs.getD (i * 2) 0 = ys.getD (j * 2) 0 ∧ xs.getD (i * 2 + 1) 0 = ys.getD (j * 2 + 1) 0) : mtJ xs ys i (f + 1) j = some j := if_pos h
theorem mtJ_no {xs ys : List Int} {i f j : Nat} (h : ¬ (xs.getD (i * 2) 0 = ys.getD (j * 2) 0 ∧ xs.getD (i * 2 + 1) 0 = ys.getD (j * 2 + 1) 0)) : mtJ xs ys i (f + 1) j = mtJ xs ys i f (j + 1) := if_neg h
theorem mtI_yes {xs ys : List Int} {m f i j : Nat} (h : mtJ xs ys i m 0 = some j) : mtI xs ys m (f + 1) i = some (i, j) := by simp [mtI, h]
theorem mtI_no {xs ys : List Int} {m f i : Nat} (h : mtJ xs ys i m 0 = none) : mtI xs ys m (f + 1) i = mtI xs ys m f (i + 1) := by simp [mtI, h]
/-- both lists of cells -/
structure MtAt (w : World) (v1 v2 : Value) (n m : Nat) (xs ys : List Int) (X : World) : Prop where
  a : CRow X w.heap.size v1 n xs
  b : CRow X w.heap.size v2 m ys
  below : Below w.heap.size w X
theorem MtAt.kept {w X X' : World} {v1 v2 : Value} {n m : Nat} {xs ys : List Int} (h : MtAt w v1 v2 n m xs ys X) (hb : Below X.heap.size X X') : MtAt w v1 v2 n m xs ys X' := ⟨h.a.below hb, h.b.below hb, h.below.trans (hb.mono h.below.size)⟩
set_option maxRecDepth 100000 in
set_option maxHeartbeats 2000000 in
theorem meet_core (x y u v : Int) (s t : ByteArray) (o1 o2 : Bool) (n m : Nat) (xs ys : List Int) (w : World) (hn : n ≤ 1048576) (hm : m ≤ 1048576)
    (H1 : Hid (∀ w, Calls Try.prog 73 #[wayV x y s] w (CsRet w o1 n xs))) (H2 : Hid (∀ w, Calls Try.prog 73 #[wayV u v t] w (CsRet w o2 m ys))) :
    Calls Try.prog 82 #[wayV x y s, wayV u v t] w (Ret w (mtV (mtI xs ys m n 0))) := by
  have HA := Lib.hid ((WB.new w x y s 56).below ((Below.refl _ _).alloc (Nat.le_refl _) (.cells #[.int .i64 u, .int .i64 v, .string t] 56)))
  have hsz : (w.alloc (.cells #[.int .i64 x, .int .i64 y, .string s] 56)).heap.size = w.heap.size + 1 := by simp
  have HB := Lib.hid (WB.new (w.alloc (.cells #[.int .i64 x, .int .i64 y, .string s] 56)) u v t 56)
  rw [hsz] at HB
  have B0 : Below w.heap.size w ((w.alloc (.cells #[.int .i64 x, .int .i64 y, .string s] 56)).alloc (.cells #[.int .i64 u, .int .i64 v, .string t] 56)) := ((Below.refl _ _).alloc (Nat.le_refl _) _).alloc (by simp) _
  clear hsz
  have a0 := HA.out.c0
  have a1 := HA.out.c1
  have a2 := HA.out.c2
  obtain ⟨R, hR⟩ : ∃ R, mtI xs ys m n 0 = R := ⟨_, rfl⟩
  rw [hR]
  have HR := Lib.hid hR
  clear hR
  go_enter Try.func82, Try.ntmps82
  go_wp2_with fail
  refine (H1.out _).mono ?_
  rintro e w1 ⟨v1, rfl, hr1, hb1⟩
  have hy := HB.out.below hb1
  have b0 := hy.c0
  have b1 := hy.c1
  have b2 := hy.c2
  have B1 := B0.trans (hb1.mono B0.size)
  have hr1a := hr1.mono B0.size
  obtain ⟨A1, p1, rfl⟩ := hr1.shape
  clear hb1 hr1 hy HA HB a0 a1 a2
  go_wp2_with fail
  refine (H2.out _).mono ?_
  rintro e w2 ⟨v2, rfl, hr2, hb2⟩
  have hr1b := hr1a.below hb2
  obtain ⟨A2, p2, rfl⟩ := hr2.shape
  have HM : Hid (MtAt w (.slice A1 n p1) (.slice A2 m p2) n m xs ys w2) := Lib.hid ⟨hr1b, hr2.mono B1.size, B1.trans (hb2.mono B1.size)⟩
  clear hb2 hr1a hr1b hr2 b0 b1 b2 H1 H2 B0 B1
  go_wp2_with fail
  go_loopw [27] (fun i wr => ∃ I c : Nat, I ≤ n ∧ c = n - I ∧ i = .int .i64 (I : Int) ∧ mtI xs ys m c I = R ∧ MtAt w (.slice A1 n p1) (.slice A2 m p2) n m xs ys wr) (fun i _ => n - (intOf i).toNat)
  case atStart => exact ⟨0, n, Nat.zero_le _, rfl, rfl, HR.out, HM.out⟩
  case round =>
    obtain ⟨I, c, hI, hc, rfl, hfn, hmt⟩ := hrel
    clear HM HR
    by_cases hlt : I < n
    · obtain ⟨c', rfl⟩ : ∃ c', c = c' + 1 := ⟨c - 1, by omega⟩
      obtain ⟨g1, c1, e1, _, hg1⟩ := hmt.a.form (by omega)
      injection e1 with e1 e2 e3
      subst e1 e3
      have i1 : (I : Int) < (n : Int) := by omega
      have i2 : (0 : Int) ≤ (I : Int) := by omega
      have q0 := hmt.a.cell (j := I * 2) (by omega)
      have q1 := hmt.a.cell (j := I * 2 + 1) (by omega)
      obtain ⟨x0, hx0⟩ : ∃ x0, xs.getD (I * 2) 0 = x0 := ⟨_, rfl⟩
      obtain ⟨x1, hx1⟩ : ∃ x1, xs.getD (I * 2 + 1) 0 = x1 := ⟨_, rfl⟩
      rw [hx0] at q0
      rw [hx1] at q1
      have HX0 := Lib.hid hx0
      have HX1 := Lib.hid hx1
      have HM := Lib.hid hmt
      have HFN := Lib.hid hfn
      have hc' : c' = n - (I + 1) := by omega
      clear hx0 hx1 hmt hfn hc e2
      go_wp2_with fail
      have HC := Lib.hid (QB.new wr x0 x1 39)
      have HM1 := Lib.hid (HM.out.kept ((Below.refl _ _).alloc (Nat.le_refl _) (.cells #[.int .i64 x0, .int .i64 x1] 39)))
      clear q0 q1 HM
      generalize wr.heap.size = h at *
      go_loopw [34] (fun j wq => ∃ J d : Nat, J ≤ m ∧ d = m - J ∧ j = .int .i64 (J : Int) ∧ mtJ xs ys I d J = mtJ xs ys I m 0 ∧ QB h x0 x1 wq ∧ MtAt w (.slice (some ⟨g1, 0, none⟩) n p1) (.slice A2 m p2) n m xs ys wq) (fun j _ => m - (intOf j).toNat)
      case atStart => exact ⟨0, m, Nat.zero_le _, rfl, rfl, rfl, HC.out, HM1.out⟩
      case round =>
        obtain ⟨J, d, hJ, hd, rfl, hfj, hqb, hmt⟩ := hrel
        clear HM1 HC
        by_cases hlj : J < m
        · obtain ⟨d', rfl⟩ : ∃ d', d = d' + 1 := ⟨d - 1, by omega⟩
          obtain ⟨g2, c2, e1, _, hg2⟩ := hmt.b.form (by omega)
          injection e1 with e1 e2 e3
          subst e1 e3
          have j1 : (J : Int) < (m : Int) := by omega
          have j2 : (0 : Int) ≤ (J : Int) := by omega
          have q0 := hmt.b.cell (j := J * 2) (by omega)
          have q1 := hmt.b.cell (j := J * 2 + 1) (by omega)
          obtain ⟨y0, hy0⟩ : ∃ y0, ys.getD (J * 2) 0 = y0 := ⟨_, rfl⟩
          obtain ⟨y1, hy1⟩ : ∃ y1, ys.getD (J * 2 + 1) 0 = y1 := ⟨_, rfl⟩
          rw [hy0] at q0
          rw [hy1] at q1
          have HY0 := Lib.hid hy0
          have HY1 := Lib.hid hy1
          have HM := Lib.hid hmt
          have HQ := Lib.hid hqb
          have HFJ := Lib.hid hfj
          have k0 := hqb.c0
          have k1 := hqb.c1
          have lt1 := hqb.lt
          have hd' : d' = m - (J + 1) := by omega
          clear hy0 hy1 hmt hfj hd e2 hqb
          have hne : ∀ {z0 z1 : Int}, (z0 = y0 → z1 = y1 → False) → z0 = x0 → z1 = x1 → mtJ xs ys I d' (J + 1) = mtJ xs ys I m 0 := fun hn e0 e1 => by
            rw [← HFJ.out, mtJ_no]
            rw [HX0.out, HX1.out, HY0.out, HY1.out]
            rintro ⟨h0, h1⟩
            exact hn (e0.trans h0) (e1.trans h1)
          by_cases hx : x0 = y0
          · by_cases hx1 : x1 = y1
            · have HR := Lib.hid (show some (I, J) = R by
                rw [← HFN.out, mtI_yes (j := J)]
                rw [← HFJ.out, mtJ_yes]
                rw [HX0.out, HX1.out, HY0.out, HY1.out]
                exact ⟨hx, hx1⟩)
              subst hx hx1
              clear hne
              go_wp2_with fail
              rw [← HR.out]
              have HZ := Lib.hid (HM.out.below.trans (((Below.refl _ _).alloc (Nat.le_refl _) (.cells #[.int .i64 x0, .int .i64 x1] 39)).mono HM.out.below.size))
              refine bodyPost_ret (v := .tuple #[.int .i64 (I : Int), .int .i64 (J : Int), .bool true]) (by simp [results, Try.f82, go_sem]) rfl ⟨rfl, HZ.out⟩
            · have HNE := Lib.hid (hne (fun _ h => hx1 h) rfl rfl)
              have b2 : (x1 == y1) = false := beq_eq_false_iff_ne.2 hx1
              subst hx
              clear hne
              go_wp2_with fail
              go_roundw
              case rel => exact ⟨J + 1, d', by omega, hd', by go_num, HNE.out, HQ.out.below ((Below.refl _ _).alloc (Nat.le_refl _) _), HM.out.kept ((Below.refl _ _).alloc (Nat.le_refl _) _)⟩
              case measure => first | (simp [intOf]; done) | (simp [intOf]; omega)
          · have HNE := Lib.hid (hne (fun h _ => hx h) rfl rfl)
            have b2 : (x0 == y0) = false := beq_eq_false_iff_ne.2 hx
            clear hne
            go_wp2_with fail
            go_roundw
            case rel => exact ⟨J + 1, d', by omega, hd', by go_num, HNE.out, HQ.out.below ((Below.refl _ _).alloc (Nat.le_refl _) _), HM.out.kept ((Below.refl _ _).alloc (Nat.le_refl _) _)⟩
            case measure => first | (simp [intOf]; done) | (simp [intOf]; omega)
        · obtain rfl : J = m := by omega
          obtain rfl : d = 0 := by omega
          have HNO := Lib.hid (show mtI xs ys J c' (I + 1) = R by
            rw [← HFN.out, mtI_no]
            exact hfj.symm)
          have HM := Lib.hid hmt
          clear hfj hd hqb hmt
          go_wp2_with fail
          go_roundw
          case rel => exact ⟨I + 1, c', by omega, hc', by go_num, HNO.out, HM.out⟩
          case measure => first | (simp [intOf]; done) | (simp [intOf]; omega)
    · obtain rfl : I = n := by omega
      obtain rfl : c = 0 := by omega
      have HR : Hid (none = R) := Lib.hid hfn
      have HM := Lib.hid hmt
      clear hfn hc hmt
      go_wp2_with fail
      rw [← HR.out]
      refine bodyPost_ret (v := .tuple #[.int .i64 0, .int .i64 0, .bool false]) (by simp [results, Try.f82, go_sem]) rfl ⟨rfl, HM.out.below⟩
theorem ncN_le (x y : Int) (s : ByteArray) : ncN x y s ≤ 1048576 := by
  unfold ncN
  split
  · next h => have := (wayB_of h).2.1; omega
  · omega
/-- the first meeting of two ways: both numbers of steps -/
def mtR (x y : Int) (s : ByteArray) (u v : Int) (t : ByteArray) : Option (Nat × Nat) := mtI (ncX x y s) (ncX u v t) (ncN u v t) (ncN x y s) 0
theorem ncMeet_any (x y u v : Int) (s t : ByteArray) (w : World) (hs : s.size ≤ maxLen) (ht : t.size ≤ maxLen) : Calls Try.prog 82 #[wayV x y s, wayV u v t] w (Ret w (mtV (mtR x y s u v t))) :=
  meet_core x y u v s t _ _ _ _ _ _ w (ncN_le x y s) (ncN_le u v t) (Lib.hid fun w => ncCells_any x y s w hs) (Lib.hid fun w => ncCells_any u v t w ht)
end Go.Proofs.Ytnlmjeakdjmohaa

/- The model's DoMeet. -/
namespace Go.Proofs.Ytnlmjeakdjmohaa
open Go.RowKit
set_option linter.unusedVariables false
/-- two ways in their boxes -/
structure W2 (w : World) (x y u v : Int) (s t : ByteArray) (X : World) : Prop where
  a : WB w.heap.size x y s X
  b : WB (w.heap.size + 1) u v t X
  below : Below w.heap.size w X
theorem W2.kept {w X X' : World} {x y u v : Int} {s t : ByteArray} (h : W2 w x y u v s t X) (hb : Below X.heap.size X X') : W2 w x y u v s t X' := ⟨h.a.below hb, h.b.below hb, h.below.trans (hb.mono h.below.size)⟩
theorem W2.start (w : World) (x y u v : Int) (s t : ByteArray) : W2 w x y u v s t ((w.alloc (.cells #[.int .i64 x, .int .i64 y, .string s] 56)).alloc (.cells #[.int .i64 u, .int .i64 v, .string t] 56)) :=
  ⟨⟨by simp [go_sem], by simp [go_sem], by simp [go_sem], by simp; omega⟩, ⟨by simp [go_sem], by simp [go_sem], by simp [go_sem], by simp⟩, ((Below.refl _ _).alloc (Nat.le_refl _) _).alloc (by simp) _⟩
def dmOk (x y : Int) (s : ByteArray) (u v : Int) (t : ByteArray) : Bool := wayB x y s && wayB u v t
def dmV (x y : Int) (s : ByteArray) (u v : Int) (t : ByteArray) : Bool := dmOk x y s u v t && (mtR x y s u v t).isSome
end Go.Proofs.Ytnlmjeakdjmohaa
