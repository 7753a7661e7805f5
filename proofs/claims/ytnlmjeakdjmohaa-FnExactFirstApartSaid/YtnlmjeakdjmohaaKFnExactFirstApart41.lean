/- Pack 41 of what FnExactFirstApart needs: NhS, FaI. -/
import Derived.Test.YtnlmjeakdjmohaaKFnExactFirstApart40
/- The model's ncHas: whether a list has a cell. -/
namespace Go.Proofs.Ytnlmjeakdjmohaa
open Go.RowKit
set_option linter.unusedVariables false
/-- is the cell among the last f -/
def hsF (xs : List Int) (x y : Int) : Nat → Nat → Bool
  | 0, _ => false
  | f + 1, j => if xs.getD (j * 2) 0 = x ∧ xs.getD (j * 2 + 1) 0 = y then true else hsF xs x y f (j + 1)
theorem hsF_yes {xs : List Int} {x y : Int} {f j : Nat} (h : xs.getD (j * 2) 0 = x ∧ xs.getD (j * 2 + 1) 0 = y) : hsF xs x y (f + 1) j = true := if_pos h
theorem hsF_no {xs : List Int} {x y : Int} {f j : Nat} (h : ¬ (xs.getD (j * 2) 0 = x ∧ xs.getD (j * 2 + 1) 0 = y)) : hsF xs x y (f + 1) j = hsF xs x y f (j + 1) := if_neg h
theorem hsF_iff (xs : List Int) (x y : Int) : ∀ f j, hsF xs x y f j = true ↔ ∃ k, j ≤ k ∧ k < j + f ∧ xs.getD (k * 2) 0 = x ∧ xs.getD (k * 2 + 1) 0 = y
  | 0, j => by simp [hsF]; omega
  | f + 1, j => by
    by_cases h : xs.getD (j * 2) 0 = x ∧ xs.getD (j * 2 + 1) 0 = y
    · rw [hsF_yes h]
      exact ⟨fun _ => ⟨j, Nat.le_refl _, by omega, h.1, h.2⟩, fun _ => rfl⟩
    · rw [hsF_no h, hsF_iff xs x y f (j + 1)]
      constructor
      · rintro ⟨k, h1, h2, h3⟩
        exact ⟨k, by omega, by omega, h3⟩
      · rintro ⟨k, h1, h2, h3⟩
        by_cases e : k = j
        · subst e
          exact absurd h3 h
        · exact ⟨k, by omega, by omega, h3⟩
theorem hsF_has (xs : List Int) (x y : Int) (n : Nat) : hsF xs x y n 0 = hasF n xs x y := by
  rw [Bool.eq_iff_iff, hsF_iff, hasF_iff]
  constructor
  · rintro ⟨k, _, h2, h3⟩
    exact ⟨k, by omega, h3⟩
  · rintro ⟨k, h2, h3⟩
    exact ⟨k, by omega, by omega, h3⟩
/-- the cell sought in its box, and the cells -/
structure HxB (w : World) (x y : Int) (v : Value) (n : Nat) (xs : List Int) (X : World) : Prop where
  c0 : X.cell? ⟨w.heap.size, 0, none⟩ = some (.int .i64 x)
  c1 : X.cell? ⟨w.heap.size, 1, none⟩ = some (.int .i64 y)
  r : RCels X v n xs
  lt : w.heap.size < X.heap.size
  below : Below w.heap.size w X
theorem HxB.kept {w X X' : World} {x y : Int} {v : Value} {n : Nat} {xs : List Int} (h : HxB w x y v n xs X) (hb : Below X.heap.size X X') : HxB w x y v n xs X' :=
  ⟨(hb.cell (p := ⟨w.heap.size, 0, none⟩) h.lt).trans h.c0, (hb.cell (p := ⟨w.heap.size, 1, none⟩) h.lt).trans h.c1, h.r.below hb, Nat.lt_of_lt_of_le h.lt hb.size, h.below.trans (hb.mono h.below.size)⟩
theorem HxB.start {w : World} {x y : Int} {v : Value} {n : Nat} {xs : List Int} (h : RCels w v n xs) (t : TypeId) : HxB w x y v n xs (w.alloc (.cells #[.int .i64 x, .int .i64 y] t)) := by
  have hb : Below w.heap.size w (w.alloc (.cells #[.int .i64 x, .int .i64 y] t)) := (Below.refl _ _).alloc (Nat.le_refl _) _
  exact ⟨by simp [go_sem], by simp [go_sem], h.below hb, by simp, hb⟩
theorem HxB.ends {w X : World} {x y : Int} {v : Value} {n : Nat} {xs : List Int} (h : HxB w x y v n xs X) (o : Obj) : HxB w x y v n xs (X.alloc o) := h.kept ((Below.refl _ _).alloc (Nat.le_refl _) _)
set_option maxRecDepth 100000 in
set_option maxHeartbeats 1000000 in
theorem ncHas_any (v : Value) (n : Nat) (xs : List Int) (x y : Int) (w : World) (h : RCels w v n xs) (hl : n ≤ 1048576) :
    Calls Try.prog 115 #[v, celV x y] w (Ret w (.bool (hasF n xs x y))) := by
  have HI := Lib.hid (HxB.start (x := x) (y := y) h 39)
  obtain ⟨A, c, rfl⟩ := h.shape
  rw [← hsF_has]
  obtain ⟨R, hR⟩ : ∃ R, hsF xs x y n 0 = R := ⟨_, rfl⟩
  rw [hR]
  have HR := Lib.hid hR
  clear hR h
  go_enter Try.func115, Try.ntmps115
  go_wp2_with fail
  go_loopw [9] (fun i wr => ∃ k : Nat, k ≤ n ∧ i = .int .i64 (k : Int) ∧ hsF xs x y (n - k) k = R ∧ HxB w x y (.slice A n c) n xs wr) (fun i _ => n - (intOf i).toNat)
  case atStart => exact ⟨0, Nat.zero_le _, rfl, HR.out, HI.out⟩
  case round =>
    obtain ⟨k, hk, rfl, hf, hib⟩ := hrel
    clear HI HR
    by_cases hlt : k < n
    · obtain ⟨g, o, cc, hv, -, -⟩ := hib.r.cells (by omega)
      injection hv with hA _ hcc
      subst hA
      subst hcc
      have i1 : (k : Int) < (n : Int) := by omega
      have i2 : 0 ≤ (k : Int) := by omega
      have hr := hib.r.at hlt
      have e0 := hr.1
      have e1 := hr.2
      have b0 := hib.c0
      have b1 := hib.c1
      have hlt2 := hib.lt
      have HIB := Lib.hid hib
      have hf1 := hf
      rw [show n - k = (n - (k + 1)) + 1 by omega] at hf1
      have HF := Lib.hid hf1
      obtain ⟨p, hp⟩ : ∃ p, xs.getD (k * 2) 0 = p := ⟨_, rfl⟩
      obtain ⟨q, hq⟩ : ∃ q, xs.getD (k * 2 + 1) 0 = q := ⟨_, rfl⟩
      rw [hp] at e0
      rw [hq] at e1
      have HP := Lib.hid hp
      have HQ := Lib.hid hq
      clear hf hf1 hib hr hp hq
      by_cases hx : p = x
      · by_cases hy : q = y
        · have HRR : Hid (R = true) := Lib.hid (by rw [← HF.out, hsF_yes ⟨by rw [HP.out]; exact hx, by rw [HQ.out]; exact hy⟩])
          have t0 : (p == x) = true := by rw [hx]; simp
          have t1 : (q == y) = true := by rw [hy]; simp
          clear HF HP HQ hx hy
          go_wp2_with fail
          go_ret
          exact ⟨by rw [HRR.out]; rfl, (HIB.out.ends _).below⟩
        · have HRR : Hid (hsF xs x y (n - (k + 1)) (k + 1) = R) := Lib.hid (by rw [← HF.out, hsF_no (by rw [HP.out, HQ.out]; exact fun h => hy h.2)])
          have t0 : (p == x) = true := by rw [hx]; simp
          have t1 : (q == y) = false := beq_eq_false_iff_ne.2 hy
          clear HF HP HQ hx hy
          go_wp2_with fail
          go_roundw
          case rel => exact ⟨k + 1, by omega, by go_num, HRR.out, HIB.out.ends _⟩
          case measure => first | (simp [intOf]; done) | (simp [intOf]; omega)
      · have HRR : Hid (hsF xs x y (n - (k + 1)) (k + 1) = R) := Lib.hid (by rw [← HF.out, hsF_no (by rw [HP.out, HQ.out]; exact fun h => hx h.1)])
        have t0 : (p == x) = false := beq_eq_false_iff_ne.2 hx
        clear HF HP HQ hx
        go_wp2_with fail
        go_roundw
        case rel => exact ⟨k + 1, by omega, by go_num, HRR.out, HIB.out.ends _⟩
        case measure => first | (simp [intOf]; done) | (simp [intOf]; omega)
    · obtain rfl : k = n := by omega
      have HRR : Hid (R = false) := Lib.hid (by rw [← hf, Nat.sub_self]; rfl)
      have HIB := Lib.hid hib
      clear hf hib
      go_wp2_with fail
      go_ret
      exact ⟨by rw [HRR.out]; rfl, HIB.out.below⟩
end Go.Proofs.Ytnlmjeakdjmohaa

/- The program's FirstApart. -/
namespace Go.Proofs.Ytnlmjeakdjmohaa
open Go.RowKit
set_option linter.unusedVariables false
def e_fa9 (g1 o1 p1 g2 o2 p2 n nT k : Nat) (A5 : Option Addr) (p5 nL : Nat) (x y u v : Int) : Nat → Value
  | 0 => .slice (some ⟨g1, o1, none⟩) n p1
  | 1 => .int .i64 (k : Int)
  | 2 => .pointer (some ⟨g1, o1 + k * 2, none⟩)
  | 3 => .agg #[.int .i64 x, .int .i64 y]
  | 4 => .slice (some ⟨g2, o2, none⟩) n p2
  | 5 => .int .i64 (k : Int)
  | 6 => .pointer (some ⟨g2, o2 + k * 2, none⟩)
  | 7 => .agg #[.int .i64 u, .int .i64 v]
  | 8 => .slice A5 nT p5
  | _ => undef
def v_fa9 (j : Nat) : Bool := ([true, true, true, true, true, true, true, true, true, false, false] : List Bool).getD j false
def r_fa9 (j : Nat) : Bool := ([false, false, false, false, false, false, false, false, false, true, true] : List Bool).getD j false
theorem ok_fa9 : ∀ j, v_fa9 j = true → r_fa9 j = false := by
  intro j h
  match j, h with
  | 0, _ => rfl
  | 1, _ => rfl
  | 2, _ => rfl
  | 3, _ => rfl
  | 4, _ => rfl
  | 5, _ => rfl
  | 6, _ => rfl
  | 7, _ => rfl
  | 8, _ => rfl
  | 9, h => simp [v_fa9] at h
  | 10, h => simp [v_fa9] at h
  | j + 11, h => simp [v_fa9] at h
theorem PRow.apart {w w' : World} {B n : Nat} {v : Value} {xs : List Int} {r : Option Nat} (h : PRow w B v n xs) (hg : w.grownBy w' r) (hne : ∀ k, v.ownBlock = some k → some k ≠ r) : PRow w' B v n xs :=
  ⟨World.ownsRow.kept h.1 hg (by
    cases e : v.ownBlock with
    | none => exact .inl rfl
    | some k => exact .inr (hne k e)), h.2⟩
/-- FirstApart's answer -/
def faO (n : Nat) (xs : List Int) (m : Nat) (ys : List Int) : Option (List Wy) := if askC n xs m ys = true then fpR (celF xs) (celF ys) n 0 (hasF 0 []) [] else none
/-- where the loop is -/
structure FaS (w : World) (o t : Value) (k : Nat) (L : List Wy) (nT : Nat) (ts : List Int) (X : World) : Prop where
  r : WRow X w.heap.size o L
  p : PRow X w.heap.size t nT ts
  ll : L.length = k
  lt : ts.length = nT * 2
  le : nT ≤ k * 25
  sep : ∀ q, o.ownBlock = some q → t.ownBlock ≠ some q
  bl : Below w.heap.size w X
theorem FaS.kept {w X X' : World} {o t : Value} {k : Nat} {L : List Wy} {nT : Nat} {ts : List Int} (h : FaS w o t k L nT ts X) (hb : Below X.heap.size X X') : FaS w o t k L nT ts X' :=
  ⟨h.r.below hb, h.p.below hb, h.ll, h.lt, h.le, h.sep, h.bl.trans (hb.mono h.bl.size)⟩
/-- behind the append of the places: the first way's copy in a block of its own -/
def FaM (w w' : World) (o v' : Value) (L : List Wy) (x y : Int) (sx : ByteArray) : Prop :=
  WRow (w'.alloc (.cells #[.int .i64 x, .int .i64 y, .string sx] 56)) w.heap.size o L ∧ (w'.alloc (.cells #[.int .i64 x, .int .i64 y, .string sx] 56)).cell? ⟨w'.heap.size, 0, none⟩ = some (.int .i64 x) ∧ (w'.alloc (.cells #[.int .i64 x, .int .i64 y, .string sx] 56)).cell? ⟨w'.heap.size, 1, none⟩ = some (.int .i64 y) ∧ (w'.alloc (.cells #[.int .i64 x, .int .i64 y, .string sx] 56)).cell? ⟨w'.heap.size, 2, none⟩ = some (.string sx) ∧ Below w.heap.size w (w'.alloc (.cells #[.int .i64 x, .int .i64 y, .string sx] 56)) ∧ ∀ q, v'.ownBlock = some q → o.ownBlock ≠ some q
theorem fa_mid {w wr w3 w' : World} {A4 A5 : Option Addr} {c4 p5 k nT g3 cc : Nat} {L W1 : List Wy} {ts : List Int} {x y : Int} {sx : ByteArray} {v' : Value} {nm : Nat} {ms : List Int}
    (h3 : FaS w (.slice A4 k c4) (.slice A5 nT p5) k L nT ts w3) (hA : FaS w (.slice A4 k c4) (.slice A5 nT p5) k L nT ts wr) (hW : WRow w3 wr.heap.size (.slice (some ⟨g3, 0, none⟩) 1 cc) W1) (hz : wr.heap.size ≤ w3.heap.size)
    (hl : W1.length = 1) (hw : wg W1 0 = (x, y, sx)) (hr : PRow w' w.heap.size v' nm ms) (hg : w3.grownBy w' (Value.slice A5 nT p5).ownBlock) (hat : v'.ownBlock = (Value.slice A5 nT p5).ownBlock ∨ ∃ g, v'.ownBlock = some g ∧ w3.heap.size ≤ g) :
    w'.cell? ⟨g3, 0, none⟩ = some (.int .i64 x) ∧ w'.cell? ⟨g3, 1, none⟩ = some (.int .i64 y) ∧ w'.cell? ⟨g3, 2, none⟩ = some (.string sx) ∧
    FaM w w' (.slice A4 k c4) v' L x y sx := by
  have hrw4 := hW.apart hg (fun q hq e2 => by
    have := (hW.blk q hq).1
    have := (hA.p.blk q e2.symm).2
    omega)
  have hc := hrw4.cell (j := 0) (by rw [hl]; omega)
  rw [hw, Nat.zero_mul, Nat.zero_add] at hc
  have hro := h3.r.apart hg (fun q hq e2 => hA.sep q hq e2.symm)
  have hbw := h3.bl.grown hg h3.bl.size (fun q hq => (h3.p.blk q hq).1)
  have hal : Below w'.heap.size w' (w'.alloc (.cells #[.int .i64 x, .int .i64 y, .string sx] 56)) := (Below.refl _ _).alloc (Nat.le_refl _) _
  refine ⟨hc.1, hc.2.1, hc.2.2, hro.below hal, by simp [go_sem], by simp [go_sem], by simp [go_sem], hbw.trans (hal.mono hbw.size), fun q hq e2 => ?_⟩
  rcases hat with h | ⟨gq, h, hz2⟩
  · rw [h] at hq
    exact hA.sep q e2 hq
  · rw [h] at hq
    injection hq with hq
    have := (hA.r.blk q e2).2
    omega
theorem fa_end {w w' w2 : World} {o v' v2 : Value} {k nT m : Nat} {L : List Wy} {ts cs : List Int} {x y : Int} {sx : ByteArray} (h : FaM w w' o v' L x y sx) (hp : PRow w' w.heap.size v' (nT + m) (ts ++ cs)) (hl : L.length = k) (hlt : ts.length = nT * 2) (hle : nT ≤ k * 25) (hcx : cs.length = m * 2) (hsz : m ≤ 25)
    (hr : WRow w2 w.heap.size v2 (L ++ [(x, y, sx)])) (hg : (w'.alloc (.cells #[.int .i64 x, .int .i64 y, .string sx] 56)).grownBy w2 o.ownBlock) (hat : v2.ownBlock = o.ownBlock ∨ ∃ g, v2.ownBlock = some g ∧ (w'.alloc (.cells #[.int .i64 x, .int .i64 y, .string sx] 56)).heap.size ≤ g) :
    FaS w v2 v' (k + 1) (L ++ [(x, y, sx)]) (nT + m) (ts ++ cs) w2 := by
  have hal : Below w'.heap.size w' (w'.alloc (.cells #[.int .i64 x, .int .i64 y, .string sx] 56)) := (Below.refl _ _).alloc (Nat.le_refl _) _
  refine ⟨hr, (hp.below hal).apart hg (fun q hq e2 => h.2.2.2.2.2 q hq e2.symm), by rw [List.length_append, hl]; rfl, by rw [List.length_append]; omega, by omega, fun q hq e2 => ?_, h.2.2.2.2.1.grown hg h.2.2.2.2.1.size (fun q hq => (h.1.blk q hq).1)⟩
  rcases hat with h1 | ⟨g, h1, hz⟩
  · rw [h1] at hq
    exact h.2.2.2.2.2 q e2 hq
  · rw [h1] at hq
    injection hq with hq
    have := (hp.blk q e2).2
    have := hal.size
    omega
set_option maxRecDepth 100000 in
set_option maxHeartbeats 8000000 in
theorem firstApartI_ret (v1 v2 : Value) (n m : Nat) (xs ys : List Int) (w : World) (h1 : RCels w v1 n xs) (h2 : RCels w v2 m ys) (hn : n ≤ 1048576) (hm : m ≤ 1048576) :
    Calls Try.prog 24 #[v1, v2] w (WsRet w (faO n xs m ys).isSome ((faO n xs m ys).getD [])) := by
  have HCA := Lib.hid (countApartI_ret v1 v2 n m xs ys w h1 h2 hn hm)
  have H1 := Lib.hid h1
  have H2 := Lib.hid h2
  obtain ⟨A1, p1, rfl⟩ := h1.shape
  obtain ⟨A2, p2, rfl⟩ := h2.shape
  clear h1 h2
  rcases Bool.eq_false_or_eq_true (askC n xs m ys) with a1 | a1
  case inr =>
    have HO : Hid (faO n xs m ys = none) := Lib.hid (by unfold faO; rw [a1]; rfl)
    rw [HO.out]
    rw [a1] at HCA
    generalize cpV n xs m ys = z at *
    clear a1 HO
    go_enter Try.func24, Try.ntmps24
    go_wp2_with fail
    refine (HCA.out).mono ?_
    rintro e w1 ⟨rfl, hb1⟩
    have HB1 := Lib.hid hb1
    clear hb1
    go_wp2_with fail
    go_ret2
    exact ⟨.slice none 0 0, rfl, WRow.nil _ _, HB1.out⟩
  obtain ⟨O, hO⟩ : ∃ O, faO n xs m ys = O := ⟨_, rfl⟩
  have HO : Hid (fpR (celF xs) (celF ys) n 0 (hasF 0 []) [] = O) := Lib.hid (by rw [← hO]; unfold faO; rw [if_pos a1])
  rw [hO]
  rw [a1] at HCA
  have hg : gdB n xs m ys = true := by
    unfold askC at a1
    rw [Bool.and_eq_true, Bool.and_eq_true, Bool.and_eq_true] at a1
    exact a1.1.1.1
  obtain ⟨emn, hn4, hgx, hgy⟩ := gdB_of hg
  have emn := emn.symm
  subst emn
  have HG : Hid (∀ i, i < n → cellB (xs.getD (i * 2) 0) (xs.getD (i * 2 + 1) 0) = true ∧ cellB (ys.getD (i * 2) 0) (ys.getD (i * 2 + 1) 0) = true) := Lib.hid fun i hi => ⟨hgx i hi, hgy i hi⟩
  generalize cpV n xs n ys = z at *
  clear a1 hg hgx hgy hO
  go_enter Try.func24, Try.ntmps24
  go_wp2_with fail
  refine (HCA.out).mono ?_
  rintro e w1 ⟨rfl, hb1⟩
  have HB1 := Lib.hid hb1
  clear hb1
  go_wp2_with fail
  go_loopw [8, 9, 24] (fun o t i wr => ∃ (k : Nat) (L : List Wy) (nT : Nat) (ts : List Int), k ≤ n ∧ i = .int .i64 (k : Int) ∧ FaS w o t k L nT ts wr ∧ fpR (celF xs) (celF ys) (n - k) k (hasF nT ts) L = O) (fun _ _ i _ => n - (intOf i).toNat)
  case atStart => exact ⟨0, [], 0, [], Nat.zero_le _, rfl, ⟨WRow.nil _ _, PRow.nil _ _, rfl, rfl, by omega, fun q h => (by cases h), HB1.out⟩, HO.out⟩
  case round =>
    obtain ⟨k, L, nT, ts, hk, rfl, hfa, hO⟩ := hrel
    obtain ⟨A4, c4, rfl⟩ := hfa.r.shape
    obtain ⟨A5, p5, rfl⟩ := hfa.p.shape
    have HFA := Lib.hid hfa
    have hll := hfa.ll
    have hle := hfa.le
    rw [hll] at hfa HFA ⊢
    clear hfa HO
    have HLL := Lib.hid hll
    clear hll
    by_cases hlt : k < n
    · have h1 := H1.out.below HFA.out.bl
      have h2 := H2.out.below HFA.out.bl
      obtain ⟨g1, o1, q1, hv, -, -⟩ := h1.cells (by omega)
      injection hv with hA _ hcc
      subst hA
      subst hcc
      obtain ⟨g2, o2, q2, hv, -, -⟩ := h2.cells (by omega)
      injection hv with hA _ hcc
      subst hA
      subst hcc
      have i1 : (k : Int) < (n : Int) := by omega
      have i2 : 0 ≤ (k : Int) := by omega
      have HC1 : Hid (∀ X, Below wr.heap.size wr X → X.cell? ⟨g1, o1 + k * 2, none⟩ = some (.int .i64 (xs.getD (k * 2) 0)) ∧ X.cell? ⟨g1, o1 + k * 2 + 1, none⟩ = some (.int .i64 (xs.getD (k * 2 + 1) 0))) := Lib.hid fun X hb => (h1.below hb).at hlt
      have HC2 : Hid (∀ X, Below wr.heap.size wr X → X.cell? ⟨g2, o2 + k * 2, none⟩ = some (.int .i64 (ys.getD (k * 2) 0)) ∧ X.cell? ⟨g2, o2 + k * 2 + 1, none⟩ = some (.int .i64 (ys.getD (k * 2 + 1) 0))) := Lib.hid fun X hb => (h2.below hb).at hlt
      have HTK := Lib.hid (RPls.of_row HFA.out.p)
      have hcb := HG.out k hlt
      have HCL : Hid (∀ X, RPls X (.slice A5 nT p5) nT ts → Calls Try.prog 75 #[celV (xs.getD (k * 2) 0) (xs.getD (k * 2 + 1) 0), celV (ys.getD (k * 2) 0) (ys.getD (k * 2 + 1) 0), .slice A5 nT p5, .int .i64 1] X (WNew X (wpL (xs.getD (k * 2) 0) (xs.getD (k * 2 + 1) 0) (ys.getD (k * 2) 0) (ys.getD (k * 2 + 1) 0) nT ts 1))) := Lib.hid fun X h => waysPast_any _ _ _ _ _ nT ts 1 X hcb.1 hcb.2 (by omega) (by omega) h
      obtain ⟨f, hf⟩ : ∃ f, n - k = f + 1 := ⟨n - k - 1, by omega⟩
      rw [hf] at hO
      have hWL : wpL (xs.getD (k * 2) 0) (xs.getD (k * 2 + 1) 0) (ys.getD (k * 2) 0) (ys.getD (k * 2 + 1) 0) nT ts 1 = (txM (((spF (hasF nT ts) (celF ys k).1 (celF ys k).2 25 (celF xs k).1 (celF xs k).2)).take 1)).map fun s => (xs.getD (k * 2) 0, xs.getD (k * 2 + 1) 0, s) := rfl
      rw [sp_take] at hWL
      cases hh : (spF (hasF nT ts) (celF ys k).1 (celF ys k).2 25 (celF xs k).1 (celF xs k).2).head? with
      | none =>
        rw [hh] at hWL
        have HRN : Hid (O = none) := Lib.hid (by rw [← hO, fpR_none hh])
        have HNL : Hid ((wpL (xs.getD (k * 2) 0) (xs.getD (k * 2 + 1) 0) (ys.getD (k * 2) 0) (ys.getD (k * 2 + 1) 0) nT ts 1).length = 0) := Lib.hid (by rw [hWL]; rfl)
        clear hO hWL hh hcb h1 h2 HG hf
        generalize wpL (xs.getD (k * 2) 0) (xs.getD (k * 2 + 1) 0) (ys.getD (k * 2) 0) (ys.getD (k * 2 + 1) 0) nT ts 1 = W1 at *
        generalize xs.getD (k * 2) 0 = x at *
        generalize xs.getD (k * 2 + 1) 0 = y at *
        generalize ys.getD (k * 2) 0 = u at *
        generalize ys.getD (k * 2 + 1) 0 = v at *
        go_wp2_with fail
        have HRG0 : ∀ (ac : Act) (ww : World), ∃ uu : Nat → Value, ac = (((((((((((ac.put (some 27) (uu 0)).put (some 28) (uu 1)).put (some 29) (uu 2)).put (some 30) (uu 3)).put (some 31) (uu 4)).put (some 32) (uu 5)).put (some 33) (uu 6)).put (some 34) (uu 7)).put (some 35) (uu 8)).put (some 36) (uu 9)).put (some 11) (uu 10)) ∧ RC ww (e_fa9 g1 o1 p1 g2 o2 p2 n nT k A5 p5 0 x y u v) v_fa9 r_fa9 9 0 (fun X v => WRow X wr.heap.size v W1) (fun _ => false) ww.drew uu := fun ac ww => ⟨fun j => ac.tmps.getD (([27, 28, 29, 30, 31, 32, 33, 34, 35, 36, 11] : List Nat).getD j 0) undef, (by show ac = (((((((((((ac.put (some 27) (ac.tmps.getD 27 undef)).put (some 28) (ac.tmps.getD 28 undef)).put (some 29) (ac.tmps.getD 29 undef)).put (some 30) (ac.tmps.getD 30 undef)).put (some 31) (ac.tmps.getD 31 undef)).put (some 32) (ac.tmps.getD 32 undef)).put (some 33) (ac.tmps.getD 33 undef)).put (some 34) (ac.tmps.getD 34 undef)).put (some 35) (ac.tmps.getD 35 undef)).put (some 36) (ac.tmps.getD 36 undef)).put (some 11) (ac.tmps.getD 11 undef)); simp only [put_same]), RC.start rfl _ _⟩
        refine wp_region_inv3 (fun a0 LL ac W => ∃ uu : Nat → Value, ac = (((((((((((a0.put (some 27) (uu 0)).put (some 28) (uu 1)).put (some 29) (uu 2)).put (some 30) (uu 3)).put (some 31) (uu 4)).put (some 32) (uu 5)).put (some 33) (uu 6)).put (some 34) (uu 7)).put (some 35) (uu 8)).put (some 36) (uu 9)).put (some 11) (uu 10)) ∧ RC wr (e_fa9 g1 o1 p1 g2 o2 p2 n nT k A5 p5 0 x y u v) v_fa9 r_fa9 9 0 (fun X v => WRow X wr.heap.size v W1) LL W uu) (by kernel_rfl) (by kernel_rfl) (HRG0 _ _) ?_ ?_
        · rintro jj op hop LL a' WW ⟨uu, rfl, hF⟩ hL hdep
          clear HRG0
          match jj, hop with
          | 0, hop =>
            simp at hop; subst hop
            refine wpOp_run rfl rfl ?_
            simp only [Act.put, List.setIfInBounds_toArray, List.set_cons_succ, List.set_cons_zero]
            go_simp
            refine ⟨_, ?_, hF.setv ok_fa9 0 rfl (.slice (some ⟨g1, o1, none⟩) n p1) rfl⟩
            simp [upg]
          | 1, hop =>
            simp at hop; subst hop
            refine wpOp_run rfl rfl ?_
            simp only [Act.put, List.setIfInBounds_toArray, List.set_cons_succ, List.set_cons_zero]
            go_simp
            refine ⟨_, ?_, hF.setv ok_fa9 1 rfl (.int .i64 (k : Int)) rfl⟩
            simp [upg]
          | 2, hop =>
            simp at hop; subst hop
            refine wpOp_run rfl rfl ?_
            simp only [Act.put, List.setIfInBounds_toArray, List.set_cons_succ, List.set_cons_zero]
            have e0 : uu 0 = .slice (some ⟨g1, o1, none⟩) n p1 := hF.val 0 rfl (hdep ⟨0, .data⟩ (by simp) rfl)
            have e1 : uu 1 = .int .i64 (k : Int) := hF.val 1 rfl (hdep ⟨1, .data⟩ (by simp) rfl)
            simp only [e0, e1]
            go_simp
            refine ⟨_, ?_, hF.setv ok_fa9 2 rfl (.pointer (some ⟨g1, o1 + k * 2, none⟩)) rfl⟩
            simp [upg, e0, e1]
          | 3, hop =>
            simp at hop; subst hop
            refine wpOp_run rfl rfl ?_
            simp only [Act.put, List.setIfInBounds_toArray, List.set_cons_succ, List.set_cons_zero]
            have e2 : uu 2 = .pointer (some ⟨g1, o1 + k * 2, none⟩) := hF.val 2 rfl (hdep ⟨2, .data⟩ (by simp) rfl)
            simp only [e2]
            have r0 := HC1.out WW hF.below
            have r1 := r0.2
            have r0 := r0.1
            go_simp
            refine ⟨_, ?_, hF.setv ok_fa9 3 rfl (.agg #[.int .i64 x, .int .i64 y]) rfl⟩
            simp [upg, e2]
          | 4, hop =>
            simp at hop; subst hop
            refine wpOp_run rfl rfl ?_
            simp only [Act.put, List.setIfInBounds_toArray, List.set_cons_succ, List.set_cons_zero]
            go_simp
            refine ⟨_, ?_, hF.setv ok_fa9 4 rfl (.slice (some ⟨g2, o2, none⟩) n p2) rfl⟩
            simp [upg]
          | 5, hop =>
            simp at hop; subst hop
            refine wpOp_run rfl rfl ?_
            simp only [Act.put, List.setIfInBounds_toArray, List.set_cons_succ, List.set_cons_zero]
            go_simp
            refine ⟨_, ?_, hF.setv ok_fa9 5 rfl (.int .i64 (k : Int)) rfl⟩
            simp [upg]
          | 6, hop =>
            simp at hop; subst hop
            refine wpOp_run rfl rfl ?_
            simp only [Act.put, List.setIfInBounds_toArray, List.set_cons_succ, List.set_cons_zero]
            have e4 : uu 4 = .slice (some ⟨g2, o2, none⟩) n p2 := hF.val 4 rfl (hdep ⟨4, .data⟩ (by simp) rfl)
            have e5 : uu 5 = .int .i64 (k : Int) := hF.val 5 rfl (hdep ⟨5, .data⟩ (by simp) rfl)
            simp only [e4, e5]
            go_simp
            refine ⟨_, ?_, hF.setv ok_fa9 6 rfl (.pointer (some ⟨g2, o2 + k * 2, none⟩)) rfl⟩
            simp [upg, e4, e5]
          | 7, hop =>
            simp at hop; subst hop
            refine wpOp_run rfl rfl ?_
            simp only [Act.put, List.setIfInBounds_toArray, List.set_cons_succ, List.set_cons_zero]
            have e6 : uu 6 = .pointer (some ⟨g2, o2 + k * 2, none⟩) := hF.val 6 rfl (hdep ⟨6, .data⟩ (by simp) rfl)
            simp only [e6]
            have r0 := HC2.out WW hF.below
            have r1 := r0.2
            have r0 := r0.1
            go_simp
            refine ⟨_, ?_, hF.setv ok_fa9 7 rfl (.agg #[.int .i64 u, .int .i64 v]) rfl⟩
            simp [upg, e6]
          | 8, hop =>
            simp at hop; subst hop
            refine wpOp_run rfl rfl ?_
            simp only [Act.put, List.setIfInBounds_toArray, List.set_cons_succ, List.set_cons_zero]
            go_simp
            refine ⟨_, ?_, hF.setv ok_fa9 8 rfl (.slice A5 nT p5) rfl⟩
            simp [upg]
          | 9, hop =>
            simp at hop; subst hop
            refine wpOp_run rfl rfl ?_
            simp only [Act.put, List.setIfInBounds_toArray, List.set_cons_succ, List.set_cons_zero]
            have e3 : uu 3 = .agg #[.int .i64 x, .int .i64 y] := hF.val 3 rfl (hdep ⟨3, .data⟩ (by simp) rfl)
            have e7 : uu 7 = .agg #[.int .i64 u, .int .i64 v] := hF.val 7 rfl (hdep ⟨7, .data⟩ (by simp) rfl)
            have e8 : uu 8 = .slice A5 nT p5 := hF.val 8 rfl (hdep ⟨8, .data⟩ (by simp) rfl)
            simp only [e3, e7, e8]
            go_simp
            go_at_call 75
            refine (HCL.out _ (HTK.out.below hF.below)).mono ?_
            rintro en w2 ⟨v2, rfl, hr2, hbC⟩
            obtain ⟨A3, c3, rfl⟩ := hr2.shape
            rw [HNL.out] at hr2 ⊢
            have hrC : WRow w2 wr.heap.size (.slice A3 0 c3) W1 := hr2.mono hF.below.size
            refine ⟨_, ?_, RC.setr ok_fa9 (RC.kept (Rw := fun X v => WRow X wr.heap.size v W1) (fun X X' v h hb => WRow.below h hb) hF hbC) hL A3 c3 hrC⟩
            simp [upg, e3, e7, e8]
          | 10, hop =>
            simp at hop; subst hop
            refine wpOp_run rfl rfl ?_
            simp only [Act.put, List.setIfInBounds_toArray, List.set_cons_succ, List.set_cons_zero]
            have hd9 := hdep ⟨9, .data⟩ (by simp) rfl
            obtain ⟨A3, c3, hres, _⟩ := hF.res
            have e9 : uu 9 = .slice A3 0 c3 := hres 9 rfl hd9
            go_simp
            refine ⟨_, ?_, hF.setc ok_fa9 9 10 rfl hd9 rfl _ rfl⟩
            first | (simp [upg]; done) | simp [upg, e9]
          | jj + 11, hop => simp at hop
        · rintro LL a' WW hall ⟨uu, rfl, hF⟩
          clear HRG0
          have e0 : uu 0 = .slice (some ⟨g1, o1, none⟩) n p1 := hF.val 0 rfl (hall 0 (by simp))
          have e1 : uu 1 = .int .i64 (k : Int) := hF.val 1 rfl (hall 1 (by simp))
          have e2 : uu 2 = .pointer (some ⟨g1, o1 + k * 2, none⟩) := hF.val 2 rfl (hall 2 (by simp))
          have e3 : uu 3 = .agg #[.int .i64 x, .int .i64 y] := hF.val 3 rfl (hall 3 (by simp))
          have e4 : uu 4 = .slice (some ⟨g2, o2, none⟩) n p2 := hF.val 4 rfl (hall 4 (by simp))
          have e5 : uu 5 = .int .i64 (k : Int) := hF.val 5 rfl (hall 5 (by simp))
          have e6 : uu 6 = .pointer (some ⟨g2, o2 + k * 2, none⟩) := hF.val 6 rfl (hall 6 (by simp))
          have e7 : uu 7 = .agg #[.int .i64 u, .int .i64 v] := hF.val 7 rfl (hall 7 (by simp))
          have e8 : uu 8 = .slice A5 nT p5 := hF.val 8 rfl (hall 8 (by simp))
          obtain ⟨A3, c3, hres, hrw⟩ := hF.res
          have e9 : uu 9 = .slice A3 0 c3 := hres 9 rfl (hall 9 (by simp))
          have e10 : uu 10 = .slice A3 0 c3 := hres 10 rfl (hall 10 (by simp))
          have HRW := Lib.hid (hrw ⟨9, rfl, hall 9 (by simp)⟩)
          have HBL := Lib.hid hF.below
          clear hF hall hres hrw
          simp only [Act.put, List.setIfInBounds_toArray, List.set_cons_succ, List.set_cons_zero]
          simp only [e0, e1, e2, e3, e4, e5, e6, e7, e8, e9, e10]
          clear e0 e1 e2 e3 e4 e5 e6 e7 e8 e9 e10
          go_wp2_with fail
          go_ret2
          exact ⟨.slice none 0 0, by rw [HRN.out]; rfl, by rw [HRN.out]; exact WRow.nil _ _, HFA.out.bl.trans (HBL.out.mono HFA.out.bl.size)⟩
      | some s =>
        rw [hh] at hWL
        have hway : wayB (xs.getD (k * 2) 0) (xs.getD (k * 2 + 1) 0) (txT s) = true := sp_way hh hcb.1 hcb.2
        have hen := sp_en hh
        have HON : Hid (fpR (celF xs) (celF ys) f (k + 1) (hasF (nT + ((txT s).size + 1)) (ts ++ clF (txT s) (xs.getD (k * 2) 0) (xs.getD (k * 2 + 1) 0) (txT s).size)) (L ++ [(xs.getD (k * 2) 0, xs.getD (k * 2 + 1) 0, txT s)]) = O) := Lib.hid (by rw [tk_step HFA.out.lt hen, ← hO, fpR_some hh]; rfl)
        replace hWL : wpL (xs.getD (k * 2) 0) (xs.getD (k * 2 + 1) 0) (ys.getD (k * 2) 0) (ys.getD (k * 2 + 1) 0) nT ts 1 = [(xs.getD (k * 2) 0, xs.getD (k * 2 + 1) 0, txT s)] := hWL
        have HNL : Hid ((wpL (xs.getD (k * 2) 0) (xs.getD (k * 2 + 1) 0) (ys.getD (k * 2) 0) (ys.getD (k * 2 + 1) 0) nT ts 1).length = 1) := Lib.hid (by rw [hWL]; rfl)
        have HWG : Hid (wg (wpL (xs.getD (k * 2) 0) (xs.getD (k * 2 + 1) 0) (ys.getD (k * 2) 0) (ys.getD (k * 2 + 1) 0) nT ts 1) 0 = (xs.getD (k * 2) 0, xs.getD (k * 2 + 1) 0, txT s)) := Lib.hid (by rw [hWL]; rfl)
        have HFF : Hid (n - (k + 1) = f) := Lib.hid (by omega)
        have hsz : (txT s).size + 1 ≤ 25 := by have := (wayB_of hway).2.1; omega
        have HPS : Hid (∀ X, Calls Try.prog 76 #[wayV (xs.getD (k * 2) 0) (xs.getD (k * 2 + 1) 0) (txT s)] X (PsRet X true ((txT s).size + 1) (clF (txT s) (xs.getD (k * 2) 0) (xs.getD (k * 2 + 1) 0) (txT s).size))) := Lib.hid fun X => by
          have := placesOf_any (xs.getD (k * 2) 0) (xs.getD (k * 2 + 1) 0) (txT s) X (by unfold maxLen; omega)
          unfold ncN ncX at this
          rw [if_pos hway, if_pos hway] at this
          have e : wayB (xs.getD (k * 2) 0) (xs.getD (k * 2 + 1) 0) (txT s) = true := hway
          rw [e] at this
          exact this
        have HCX : Hid ((clF (txT s) (xs.getD (k * 2) 0) (xs.getD (k * 2 + 1) 0) (txT s).size).length = ((txT s).size + 1) * 2) := Lib.hid (clF_len _ _ _ _)
        clear hO hWL hh hcb h1 h2 HG hf hway hen
        generalize wpL (xs.getD (k * 2) 0) (xs.getD (k * 2 + 1) 0) (ys.getD (k * 2) 0) (ys.getD (k * 2 + 1) 0) nT ts 1 = W1 at *
        generalize clF (txT s) (xs.getD (k * 2) 0) (xs.getD (k * 2 + 1) 0) (txT s).size = cs at *
        generalize txT s = sx at *
        generalize xs.getD (k * 2) 0 = x at *
        generalize xs.getD (k * 2 + 1) 0 = y at *
        generalize ys.getD (k * 2) 0 = u at *
        generalize ys.getD (k * 2 + 1) 0 = v at *
        go_wp2_with fail
        have HRG0 : ∀ (ac : Act) (ww : World), ∃ uu : Nat → Value, ac = (((((((((((ac.put (some 27) (uu 0)).put (some 28) (uu 1)).put (some 29) (uu 2)).put (some 30) (uu 3)).put (some 31) (uu 4)).put (some 32) (uu 5)).put (some 33) (uu 6)).put (some 34) (uu 7)).put (some 35) (uu 8)).put (some 36) (uu 9)).put (some 11) (uu 10)) ∧ RC ww (e_fa9 g1 o1 p1 g2 o2 p2 n nT k A5 p5 1 x y u v) v_fa9 r_fa9 9 1 (fun X v => WRow X wr.heap.size v W1) (fun _ => false) ww.drew uu := fun ac ww => ⟨fun j => ac.tmps.getD (([27, 28, 29, 30, 31, 32, 33, 34, 35, 36, 11] : List Nat).getD j 0) undef, (by show ac = (((((((((((ac.put (some 27) (ac.tmps.getD 27 undef)).put (some 28) (ac.tmps.getD 28 undef)).put (some 29) (ac.tmps.getD 29 undef)).put (some 30) (ac.tmps.getD 30 undef)).put (some 31) (ac.tmps.getD 31 undef)).put (some 32) (ac.tmps.getD 32 undef)).put (some 33) (ac.tmps.getD 33 undef)).put (some 34) (ac.tmps.getD 34 undef)).put (some 35) (ac.tmps.getD 35 undef)).put (some 36) (ac.tmps.getD 36 undef)).put (some 11) (ac.tmps.getD 11 undef)); simp only [put_same]), RC.start rfl _ _⟩
        refine wp_region_inv3 (fun a0 LL ac W => ∃ uu : Nat → Value, ac = (((((((((((a0.put (some 27) (uu 0)).put (some 28) (uu 1)).put (some 29) (uu 2)).put (some 30) (uu 3)).put (some 31) (uu 4)).put (some 32) (uu 5)).put (some 33) (uu 6)).put (some 34) (uu 7)).put (some 35) (uu 8)).put (some 36) (uu 9)).put (some 11) (uu 10)) ∧ RC wr (e_fa9 g1 o1 p1 g2 o2 p2 n nT k A5 p5 1 x y u v) v_fa9 r_fa9 9 1 (fun X v => WRow X wr.heap.size v W1) LL W uu) (by kernel_rfl) (by kernel_rfl) (HRG0 _ _) ?_ ?_
        · rintro jj op hop LL a' WW ⟨uu, rfl, hF⟩ hL hdep
          clear HRG0
          match jj, hop with
          | 0, hop =>
            simp at hop; subst hop
            refine wpOp_run rfl rfl ?_
            simp only [Act.put, List.setIfInBounds_toArray, List.set_cons_succ, List.set_cons_zero]
            go_simp
            refine ⟨_, ?_, hF.setv ok_fa9 0 rfl (.slice (some ⟨g1, o1, none⟩) n p1) rfl⟩
            simp [upg]
          | 1, hop =>
            simp at hop; subst hop
            refine wpOp_run rfl rfl ?_
            simp only [Act.put, List.setIfInBounds_toArray, List.set_cons_succ, List.set_cons_zero]
            go_simp
            refine ⟨_, ?_, hF.setv ok_fa9 1 rfl (.int .i64 (k : Int)) rfl⟩
            simp [upg]
          | 2, hop =>
            simp at hop; subst hop
            refine wpOp_run rfl rfl ?_
            simp only [Act.put, List.setIfInBounds_toArray, List.set_cons_succ, List.set_cons_zero]
            have e0 : uu 0 = .slice (some ⟨g1, o1, none⟩) n p1 := hF.val 0 rfl (hdep ⟨0, .data⟩ (by simp) rfl)
            have e1 : uu 1 = .int .i64 (k : Int) := hF.val 1 rfl (hdep ⟨1, .data⟩ (by simp) rfl)
            simp only [e0, e1]
            go_simp
            refine ⟨_, ?_, hF.setv ok_fa9 2 rfl (.pointer (some ⟨g1, o1 + k * 2, none⟩)) rfl⟩
            simp [upg, e0, e1]
          | 3, hop =>
            simp at hop; subst hop
            refine wpOp_run rfl rfl ?_
            simp only [Act.put, List.setIfInBounds_toArray, List.set_cons_succ, List.set_cons_zero]
            have e2 : uu 2 = .pointer (some ⟨g1, o1 + k * 2, none⟩) := hF.val 2 rfl (hdep ⟨2, .data⟩ (by simp) rfl)
            simp only [e2]
            have r0 := HC1.out WW hF.below
            have r1 := r0.2
            have r0 := r0.1
            go_simp
            refine ⟨_, ?_, hF.setv ok_fa9 3 rfl (.agg #[.int .i64 x, .int .i64 y]) rfl⟩
            simp [upg, e2]
          | 4, hop =>
            simp at hop; subst hop
            refine wpOp_run rfl rfl ?_
            simp only [Act.put, List.setIfInBounds_toArray, List.set_cons_succ, List.set_cons_zero]
            go_simp
            refine ⟨_, ?_, hF.setv ok_fa9 4 rfl (.slice (some ⟨g2, o2, none⟩) n p2) rfl⟩
            simp [upg]
          | 5, hop =>
            simp at hop; subst hop
            refine wpOp_run rfl rfl ?_
            simp only [Act.put, List.setIfInBounds_toArray, List.set_cons_succ, List.set_cons_zero]
            go_simp
            refine ⟨_, ?_, hF.setv ok_fa9 5 rfl (.int .i64 (k : Int)) rfl⟩
            simp [upg]
          | 6, hop =>
            simp at hop; subst hop
            refine wpOp_run rfl rfl ?_
            simp only [Act.put, List.setIfInBounds_toArray, List.set_cons_succ, List.set_cons_zero]
            have e4 : uu 4 = .slice (some ⟨g2, o2, none⟩) n p2 := hF.val 4 rfl (hdep ⟨4, .data⟩ (by simp) rfl)
            have e5 : uu 5 = .int .i64 (k : Int) := hF.val 5 rfl (hdep ⟨5, .data⟩ (by simp) rfl)
            simp only [e4, e5]
            go_simp
            refine ⟨_, ?_, hF.setv ok_fa9 6 rfl (.pointer (some ⟨g2, o2 + k * 2, none⟩)) rfl⟩
            simp [upg, e4, e5]
          | 7, hop =>
            simp at hop; subst hop
            refine wpOp_run rfl rfl ?_
            simp only [Act.put, List.setIfInBounds_toArray, List.set_cons_succ, List.set_cons_zero]
            have e6 : uu 6 = .pointer (some ⟨g2, o2 + k * 2, none⟩) := hF.val 6 rfl (hdep ⟨6, .data⟩ (by simp) rfl)
            simp only [e6]
            have r0 := HC2.out WW hF.below
            have r1 := r0.2
            have r0 := r0.1
            go_simp
            refine ⟨_, ?_, hF.setv ok_fa9 7 rfl (.agg #[.int .i64 u, .int .i64 v]) rfl⟩
            simp [upg, e6]
          | 8, hop =>
            simp at hop; subst hop
            refine wpOp_run rfl rfl ?_
            simp only [Act.put, List.setIfInBounds_toArray, List.set_cons_succ, List.set_cons_zero]
            go_simp
            refine ⟨_, ?_, hF.setv ok_fa9 8 rfl (.slice A5 nT p5) rfl⟩
            simp [upg]
          | 9, hop =>
            simp at hop; subst hop
            refine wpOp_run rfl rfl ?_
            simp only [Act.put, List.setIfInBounds_toArray, List.set_cons_succ, List.set_cons_zero]
            have e3 : uu 3 = .agg #[.int .i64 x, .int .i64 y] := hF.val 3 rfl (hdep ⟨3, .data⟩ (by simp) rfl)
            have e7 : uu 7 = .agg #[.int .i64 u, .int .i64 v] := hF.val 7 rfl (hdep ⟨7, .data⟩ (by simp) rfl)
            have e8 : uu 8 = .slice A5 nT p5 := hF.val 8 rfl (hdep ⟨8, .data⟩ (by simp) rfl)
            simp only [e3, e7, e8]
            go_simp
            go_at_call 75
            refine (HCL.out _ (HTK.out.below hF.below)).mono ?_
            rintro en w2 ⟨v2, rfl, hr2, hbC⟩
            obtain ⟨A3, c3, rfl⟩ := hr2.shape
            rw [HNL.out] at hr2 ⊢
            have hrC : WRow w2 wr.heap.size (.slice A3 1 c3) W1 := hr2.mono hF.below.size
            refine ⟨_, ?_, RC.setr ok_fa9 (RC.kept (Rw := fun X v => WRow X wr.heap.size v W1) (fun X X' v h hb => WRow.below h hb) hF hbC) hL A3 c3 hrC⟩
            simp [upg, e3, e7, e8]
          | 10, hop =>
            simp at hop; subst hop
            refine wpOp_run rfl rfl ?_
            simp only [Act.put, List.setIfInBounds_toArray, List.set_cons_succ, List.set_cons_zero]
            have hd9 := hdep ⟨9, .data⟩ (by simp) rfl
            obtain ⟨A3, c3, hres, _⟩ := hF.res
            have e9 : uu 9 = .slice A3 1 c3 := hres 9 rfl hd9
            go_simp
            refine ⟨_, ?_, hF.setc ok_fa9 9 10 rfl hd9 rfl _ rfl⟩
            first | (simp [upg]; done) | simp [upg, e9]
          | jj + 11, hop => simp at hop
        · rintro LL a' WW hall ⟨uu, rfl, hF⟩
          clear HRG0
          have e0 : uu 0 = .slice (some ⟨g1, o1, none⟩) n p1 := hF.val 0 rfl (hall 0 (by simp))
          have e1 : uu 1 = .int .i64 (k : Int) := hF.val 1 rfl (hall 1 (by simp))
          have e2 : uu 2 = .pointer (some ⟨g1, o1 + k * 2, none⟩) := hF.val 2 rfl (hall 2 (by simp))
          have e3 : uu 3 = .agg #[.int .i64 x, .int .i64 y] := hF.val 3 rfl (hall 3 (by simp))
          have e4 : uu 4 = .slice (some ⟨g2, o2, none⟩) n p2 := hF.val 4 rfl (hall 4 (by simp))
          have e5 : uu 5 = .int .i64 (k : Int) := hF.val 5 rfl (hall 5 (by simp))
          have e6 : uu 6 = .pointer (some ⟨g2, o2 + k * 2, none⟩) := hF.val 6 rfl (hall 6 (by simp))
          have e7 : uu 7 = .agg #[.int .i64 u, .int .i64 v] := hF.val 7 rfl (hall 7 (by simp))
          have e8 : uu 8 = .slice A5 nT p5 := hF.val 8 rfl (hall 8 (by simp))
          obtain ⟨A3, c3, hres, hrw⟩ := hF.res
          have e9 : uu 9 = .slice A3 1 c3 := hres 9 rfl (hall 9 (by simp))
          have e10 : uu 10 = .slice A3 1 c3 := hres 10 rfl (hall 10 (by simp))
          have HRW := Lib.hid (hrw ⟨9, rfl, hall 9 (by simp)⟩)
          have HBL := Lib.hid hF.below
          clear hF hall hres hrw
          simp only [Act.put, List.setIfInBounds_toArray, List.set_cons_succ, List.set_cons_zero]
          simp only [e0, e1, e2, e3, e4, e5, e6, e7, e8, e9, e10]
          clear e0 e1 e2 e3 e4 e5 e6 e7 e8 e9 e10
          have HF2 := Lib.hid (HFA.out.kept HBL.out)
          obtain ⟨g3, cc, hv, hgb, hgl⟩ := HRW.out.form HNL.out (by omega)
          injection hv with hA _ hcc
          subst hA
          subst hcc
          have hc := HRW.out.cell (j := 0) (by rw [HNL.out]; omega)
          rw [HWG.out, Nat.zero_mul, Nat.zero_add] at hc
          obtain ⟨d0, d1, d2⟩ := hc
          go_wp2_with fail
          refine (HPS.out _).mono ?_
          rintro e w3 ⟨v5, rfl, hp5, hb5⟩
          obtain ⟨A6, c6, rfl⟩ := hp5.shape
          have HP5 := Lib.hid hp5
          have HF3 := Lib.hid (HF2.out.kept hb5)
          have HRW3 := Lib.hid (HRW.out.below hb5)
          have HZZ : Hid (wr.heap.size ≤ w3.heap.size) := Lib.hid (Nat.le_trans HBL.out.size hb5.size)
          clear hp5 hb5 d0 d1 d2 hgb hgl
          go_wp2_with (first | (at_builtin; refine wpList_extendP (.tmp 47) (.tmp 48) rfl rfl w.heap.size _ _ nT (sx.size + 1) ts cs rfl HF3.out.p rfl (RPls.of_row HP5.out) HCX.out (by omega) HF3.out.bl.size ?_; intro v' w' hr' hg' hat'; have hx6 := fa_mid HF3.out HFA.out HRW3.out HZZ.out HNL.out HWG.out hr' hg' hat'; obtain ⟨d0, d1, d2, hx7⟩ := hx6; have HX7 := Lib.hid hx7; have HP6 := Lib.hid hr'; clear hr' hg' hat' hx7) | (at_builtin; refine wpList_pushW x y sx (.tmp 50) (.tmp 54) rfl rfl w.heap.size _ L rfl (HX7.out.1) _ rfl HX7.out.2.1 HX7.out.2.2.1 HX7.out.2.2.2.1 (by rw [HLL.out]; omega) HX7.out.2.2.2.2.1.size ?_; intro v2' w2' hr2' hg2' hat2'))
          have hfin := fa_end HX7.out HP6.out HLL.out HFA.out.lt HFA.out.le HCX.out hsz hr2' hg2' hat2'
          have HFIN := Lib.hid hfin
          clear hfin hr2' hg2' hat2'
          go_wp2_with fail
          go_roundw
          case rel => exact ⟨k + 1, L ++ [(x, y, sx)], nT + (sx.size + 1), ts ++ cs, by omega, by go_num, HFIN.out, by rw [HFF.out]; exact HON.out⟩
          case measure => first | (simp [intOf]; done) | (simp [intOf]; omega)
    · obtain rfl : k = n := by omega
      have HOL : Hid (O = some L) := Lib.hid (by rw [← hO, Nat.sub_self, fpR_zero])
      clear hO
      go_wp2_with fail
      go_ret2
      exact ⟨_, by rw [HOL.out]; rfl, by rw [HOL.out]; exact HFA.out.r, HFA.out.bl⟩
end Go.Proofs.Ytnlmjeakdjmohaa
