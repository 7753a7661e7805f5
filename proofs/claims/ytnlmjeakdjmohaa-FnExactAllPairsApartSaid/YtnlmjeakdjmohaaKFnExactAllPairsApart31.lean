/- Pack 31 of what FnExactAllPairsApart needs: SpI, CwyI. -/
import Derived.Test.YtnlmjeakdjmohaaKFnExactAllPairsApart30
/- The program's stepsPast. -/
namespace Go.Proofs.Ytnlmjeakdjmohaa
open Go.RowKit
set_option linter.unusedVariables false
/-- two places in their boxes, and what is taken -/
structure SpB (b : Nat) (x y u v : Int) (tv : Value) (n : Nat) (ts : List Int) (X : World) : Prop where
  c0 : X.cell? ⟨b, 0, none⟩ = some (.int .i64 x)
  c1 : X.cell? ⟨b, 1, none⟩ = some (.int .i64 y)
  c2 : X.cell? ⟨b + 1, 0, none⟩ = some (.int .i64 u)
  c3 : X.cell? ⟨b + 1, 1, none⟩ = some (.int .i64 v)
  lt : b + 1 < X.heap.size
  r : RPls X tv n ts
theorem SpB.kept {b : Nat} {x y u v : Int} {tv : Value} {n : Nat} {ts : List Int} {X X' : World} (h : SpB b x y u v tv n ts X) (hb : Below X.heap.size X X') : SpB b x y u v tv n ts X' :=
  ⟨(hb.cell (p := ⟨b, 0, none⟩) (Nat.lt_of_succ_lt h.lt)).trans h.c0, (hb.cell (p := ⟨b, 1, none⟩) (Nat.lt_of_succ_lt h.lt)).trans h.c1, (hb.cell (p := ⟨b + 1, 0, none⟩) h.lt).trans h.c2, (hb.cell (p := ⟨b + 1, 1, none⟩) h.lt).trans h.c3, Nat.lt_of_lt_of_le h.lt hb.size, h.r.below hb⟩
theorem SpB.start {w : World} {x y u v : Int} {tv : Value} {n : Nat} {ts : List Int} (h : RPls w tv n ts) : SpB w.heap.size x y u v tv n ts ((w.alloc (.cells #[.int .i64 x, .int .i64 y] 103)).alloc (.cells #[.int .i64 u, .int .i64 v] 103)) := by
  have hb : Below w.heap.size w ((w.alloc (.cells #[.int .i64 x, .int .i64 y] 103)).alloc (.cells #[.int .i64 u, .int .i64 v] 103)) := ((Below.refl _ _).alloc (Nat.le_refl _) _).alloc (by simp) _
  exact ⟨by simp [go_sem], by simp [go_sem], by simp [go_sem], by simp [go_sem], by simp, h.below hb⟩
/-- what the region of the call reads -/
structure SpR (w1 : World) (b : Nat) (x y u v : Int) (tv : Value) (n : Nat) (ts : List Int) (B : Nat) (o : Value) (P : List ByteArray) (X : World) : Prop where
  s : SpB b x y u v tv n ts X
  p : SRow X B o P
  below : Below w1.heap.size w1 X
theorem SpR.kept {w1 : World} {b : Nat} {x y u v : Int} {tv : Value} {n : Nat} {ts : List Int} {B : Nat} {o : Value} {P : List ByteArray} {X X' : World} (h : SpR w1 b x y u v tv n ts B o P X) (hb : Below X.heap.size X X') : SpR w1 b x y u v tv n ts B o P X' := ⟨h.s.kept hb, h.p.below hb, h.below.trans (hb.mono h.below.size)⟩
theorem spMk {w w1 : World} {x y u v : Int} {tv : Value} {n : Nat} {ts : List Int} {o : Value} {P : List ByteArray} {X : World} (h : SpR w1 w.heap.size x y u v tv n ts w1.heap.size o P X) : (X.cell? ⟨w.heap.size, 0, none⟩ = some (.int .i64 x) ∧ X.cell? ⟨w.heap.size, 1, none⟩ = some (.int .i64 y) ∧ X.cell? ⟨w.heap.size + 1, 0, none⟩ = some (.int .i64 u) ∧ X.cell? ⟨w.heap.size + 1, 1, none⟩ = some (.int .i64 v) ∧ SpR w1 w.heap.size x y u v tv n ts w1.heap.size o P X) := ⟨h.s.c0, h.s.c1, h.s.c2, h.s.c3, h⟩
theorem spOf {w w1 : World} {x y u v : Int} {tv : Value} {n : Nat} {ts : List Int} {o : Value} {P : List ByteArray} {X : World} (h : (X.cell? ⟨w.heap.size, 0, none⟩ = some (.int .i64 x) ∧ X.cell? ⟨w.heap.size, 1, none⟩ = some (.int .i64 y) ∧ X.cell? ⟨w.heap.size + 1, 0, none⟩ = some (.int .i64 u) ∧ X.cell? ⟨w.heap.size + 1, 1, none⟩ = some (.int .i64 v) ∧ SpR w1 w.heap.size x y u v tv n ts w1.heap.size o P X)) : SpR w1 w.heap.size x y u v tv n ts w1.heap.size o P X := h.2.2.2.2
theorem spKeep {w w1 : World} {x y u v : Int} {tv : Value} {n : Nat} {ts : List Int} {o : Value} {P : List ByteArray} {X Y : World} (h : (X.cell? ⟨w.heap.size, 0, none⟩ = some (.int .i64 x) ∧ X.cell? ⟨w.heap.size, 1, none⟩ = some (.int .i64 y) ∧ X.cell? ⟨w.heap.size + 1, 0, none⟩ = some (.int .i64 u) ∧ X.cell? ⟨w.heap.size + 1, 1, none⟩ = some (.int .i64 v) ∧ SpR w1 w.heap.size x y u v tv n ts w1.heap.size o P X)) (hb : Below X.heap.size X Y) : Y.cell? ⟨w.heap.size, 0, none⟩ = some (.int .i64 x) ∧ Y.cell? ⟨w.heap.size, 1, none⟩ = some (.int .i64 y) ∧ Y.cell? ⟨w.heap.size + 1, 0, none⟩ = some (.int .i64 u) ∧ Y.cell? ⟨w.heap.size + 1, 1, none⟩ = some (.int .i64 v) ∧ SpR w1 w.heap.size x y u v tv n ts w1.heap.size o P Y := spMk ((spOf h).kept hb)
def e_spE (x y u v : Int) (A0 : Option Addr) (n c0 most : Nat) (A2 : Option Addr) (lf c2 nL : Nat) : Nat → Value
  | 0 => .func (.func 148) #[] #[]
  | 1 => .agg #[.int .i64 x, .int .i64 y]
  | 2 => .agg #[.int .i64 (x + 1), .int .i64 y]
  | 3 => .agg #[.int .i64 u, .int .i64 v]
  | 4 => .slice A0 n c0
  | 5 => .int .i64 (most : Int)
  | 6 => .slice A2 lf c2
  | 7 => .int .i64 (lf : Int)
  | 8 => .int .i64 ((most : Int) - (lf : Int))
  | 10 => .int .i64 (nL : Int)
  | 11 => .int .i64 0
  | _ => undef
def v_spE (j : Nat) : Bool := ([true, true, true, true, true, true, true, true, true, false, true, true] : List Bool).getD j false
def r_spE (j : Nat) : Bool := ([false, false, false, false, false, false, false, false, false, true, false, false] : List Bool).getD j false
theorem ok_spE : ∀ j, v_spE j = true → r_spE j = false := by
  intro j h
  match j, h with
  | 0, _ => rfl
  | 1, _ => rfl
  | 2, _ => rfl
  | 3, _ => rfl
  | 4, _ => rfl
  | 5, _ => rfl
  | 6, _ => rfl
  | 7, _ => rfl
  | 8, _ => rfl
  | 9, h => simp [v_spE] at h
  | 10, _ => rfl
  | 11, _ => rfl
  | j + 12, h => simp [v_spE] at h
def e_spN (x y u v : Int) (A0 : Option Addr) (n c0 most : Nat) (A2 : Option Addr) (lf c2 nL : Nat) : Nat → Value
  | 0 => .func (.func 149) #[] #[]
  | 1 => .agg #[.int .i64 x, .int .i64 y]
  | 2 => .agg #[.int .i64 x, .int .i64 (y + 1)]
  | 3 => .agg #[.int .i64 u, .int .i64 v]
  | 4 => .slice A0 n c0
  | 5 => .int .i64 (most : Int)
  | 6 => .slice A2 lf c2
  | 7 => .int .i64 (lf : Int)
  | 8 => .int .i64 ((most : Int) - (lf : Int))
  | 10 => .int .i64 (nL : Int)
  | 11 => .int .i64 0
  | _ => undef
def v_spN (j : Nat) : Bool := ([true, true, true, true, true, true, true, true, true, false, true, true] : List Bool).getD j false
def r_spN (j : Nat) : Bool := ([false, false, false, false, false, false, false, false, false, true, false, false] : List Bool).getD j false
theorem ok_spN : ∀ j, v_spN j = true → r_spN j = false := by
  intro j h
  match j, h with
  | 0, _ => rfl
  | 1, _ => rfl
  | 2, _ => rfl
  | 3, _ => rfl
  | 4, _ => rfl
  | 5, _ => rfl
  | 6, _ => rfl
  | 7, _ => rfl
  | 8, _ => rfl
  | 9, h => simp [v_spN] at h
  | 10, _ => rfl
  | 11, _ => rfl
  | j + 12, h => simp [v_spN] at h
theorem spF_small {tk : Int → Int → Bool} {u v : Int} {f : Nat} {x y : Int} {p : List UInt8} {N : Nat} (h : p ∈ spF tk u v f x y) (hN : (u - x) + (v - y) ≤ N) : p.length ≤ N := by
  have := (spF_mem f x y p h).2.2.1
  omega
theorem txM_take (L : List (List UInt8)) (m : Nat) : txM (L.take m) = (txM L).take m := by unfold txM; rw [List.map_take]
theorem dir_E : (⟨#[69, 78]⟩ : ByteArray).extract 0 1 = ⟨#[69]⟩ := by decide
theorem dir_N : (⟨#[69, 78]⟩ : ByteArray).extract 1 2 = ⟨#[78]⟩ := by decide
theorem join_dir (c : UInt8) (s : ByteArray) (hs : s.size ≤ 90) (X : World) (g : Nat) (hg : g = X.heap.size) : Calls Try.prog 147 #[.slice (some ⟨g, 0, none⟩) 2 2] (X.alloc (.cells #[.string ⟨#[c]⟩, .string s] 9)) fun e w' => e = .returned (.string (tx1 c s)) ∧ Below X.heap.size X w' := by
  subst hg
  exact join_two ⟨#[c]⟩ s (by show (#[c] : Array UInt8).size ≤ 100; simp) (by omega) X
set_option maxRecDepth 100000 in
set_option maxHeartbeats 8000000 in
theorem stepsPast_any (u v : Int) (hu : 0 ≤ u ∧ u ≤ 12) (hv : 0 ≤ v ∧ v ≤ 12) : ∀ (f : Nat) (x y : Int) (tv : Value) (n : Nat) (ts : List Int) (most : Nat) (w : World), (u - x) + (v - y) < f → (0 ≤ x ∧ x ≤ 13) → (0 ≤ y ∧ y ≤ 13) → most ≤ 1000000 → n ≤ 1048576 → RPls w tv n ts →
    Calls Try.prog 120 #[celV x y, celV u v, tv, .int .i64 (most : Int)] w (SNew w (txM ((spF (hasF n ts) u v f x y).take most))) := by
  intro f
  induction f with
  | zero =>
    intro x y tv n ts most w hf hx hy hm hn hr
    have HX := Lib.hid (SpB.start (x := x) (y := y) (u := u) (v := v) hr)
    have hb : Below w.heap.size w ((w.alloc (.cells #[.int .i64 x, .int .i64 y] 103)).alloc (.cells #[.int .i64 u, .int .i64 v] 103)) := ((Below.refl _ _).alloc (Nat.le_refl _) _).alloc (by simp) _
    have HBB := Lib.hid hb
    have e1 : txM ((spF (hasF n ts) u v 0 x y).take most) = [] := by simp [spF, txM]
    rw [e1]
    obtain ⟨A0, c0, rfl⟩ := hr.shape
    clear hr hb e1
    by_cases h0 : most = 0
    · subst h0
      go_enter Try.func120, Try.ntmps120
      go_wp2_with fail
      go_ret
      exact ⟨_, rfl, SRow.nil _ _, HBB.out⟩
    have i0 : ((most : Int) == 0) = false := beq_eq_false_iff_ne.2 (by omega)
    by_cases h1 : u < x
    · go_enter Try.func120, Try.ntmps120
      go_wp2_with fail
      go_ret
      exact ⟨_, rfl, SRow.nil _ _, HBB.out⟩
    · have h2 : v < y := by omega
      go_enter Try.func120, Try.ntmps120
      go_wp2_with fail
      go_ret
      exact ⟨_, rfl, SRow.nil _ _, HBB.out⟩
  | succ f ih =>
    intro x y tv n ts most w hf hx hy hm hn hr
    have HX := Lib.hid (SpB.start (x := x) (y := y) (u := u) (v := v) hr)
    have hb : Below w.heap.size w ((w.alloc (.cells #[.int .i64 x, .int .i64 y] 103)).alloc (.cells #[.int .i64 u, .int .i64 v] 103)) := ((Below.refl _ _).alloc (Nat.le_refl _) _).alloc (by simp) _
    have HBB := Lib.hid hb
    have HE := eq_place
    have HC : Hid (∀ X, RPls X tv n ts → Calls Try.prog 146 #[tv, celV x y] X (Ret X (.bool (hasF n ts x y)))) := Lib.hid fun X h => containsP_any tv n ts x y X h hn
    obtain ⟨A0, c0, rfl⟩ := hr.shape
    clear hr hb
    by_cases h0 : most = 0
    · subst h0
      rw [List.take_zero]
      clear ih HC
      go_enter Try.func120, Try.ntmps120
      go_wp2_with fail
      go_ret
      exact ⟨_, rfl, SRow.nil _ _, HBB.out⟩
    have i0 : ((most : Int) == 0) = false := beq_eq_false_iff_ne.2 (by omega)
    by_cases h1 : u < x
    · rw [spF_no (.inl h1), List.take_nil]
      clear ih HC
      go_enter Try.func120, Try.ntmps120
      go_wp2_with fail
      go_ret
      exact ⟨_, rfl, SRow.nil _ _, HBB.out⟩
    by_cases h2 : v < y
    · rw [spF_no (.inr (.inl h2)), List.take_nil]
      clear ih HC
      go_enter Try.func120, Try.ntmps120
      go_wp2_with fail
      go_ret
      exact ⟨_, rfl, SRow.nil _ _, HBB.out⟩
    rcases Bool.eq_false_or_eq_true (hasF n ts x y) with h3 | h3
    · rw [spF_no (.inr (.inr h3)), List.take_nil]
      rw [h3] at HC
      clear ih h3
      go_enter Try.func120, Try.ntmps120
      go_wp2_with fail
      refine (HC.out _ HX.out.r).mono ?_
      rintro e w1 ⟨rfl, hb1⟩
      have HB1 := Lib.hid (HBB.out.trans (hb1.mono HBB.out.size))
      clear hb1
      go_wp2_with fail
      go_ret
      exact ⟨_, rfl, SRow.nil _ _, HB1.out⟩
    rw [h3] at HC
    have h4 : ¬ (u < x ∨ v < y ∨ hasF n ts x y = true) := by rw [h3]; simp; omega
    by_cases h5 : x = u ∧ y = v
    · obtain ⟨rfl, rfl⟩ := h5
      have e1 : (spF (hasF n ts) x y (f + 1) x y).take most = [[]] := by
        rw [spF_end h3]
        obtain ⟨m', rfl⟩ : ∃ m', most = m' + 1 := ⟨most - 1, by omega⟩
        simp
      rw [e1]
      have t0 : (x == x) = true := by simp
      have t1 : (y == y) = true := by simp
      clear ih h3 h4 e1
      go_enter Try.func120, Try.ntmps120
      go_wp2_with fail
      refine (HC.out _ HX.out.r).mono ?_
      rintro e w1 ⟨rfl, hb1⟩
      have hx1 := HX.out.kept hb1
      have r0 := hx1.c0
      have r1 := hx1.c1
      have r2 := hx1.c2
      have r3 := hx1.c3
      have HB1 := Lib.hid (HBB.out.trans (hb1.mono HBB.out.size))
      clear hb1 hx1
      go_wp2_with fail
      go_ret
      exact ⟨_, rfl, (one_text w1 ⟨#[]⟩).mono HB1.out.size, HB1.out.trans (((Below.refl _ _).alloc (Nat.le_refl _) _).mono HB1.out.size)⟩
    rw [spF_step h4 h5]
    have HA : Hid (∀ X, RPls X (.slice A0 n c0) n ts → Calls Try.prog 120 #[celV (x + 1) y, celV u v, .slice A0 n c0, .int .i64 (most : Int)] X (SNew X ((txM (spF (hasF n ts) u v f (x + 1) y)).take most))) := Lib.hid fun X h => by
      rw [← txM_take]
      exact ih (x + 1) y _ n ts most X (by omega) (by omega) (by omega) hm hn h
    have HB : Hid (∀ (m2 : Nat) X, m2 ≤ 1000000 → RPls X (.slice A0 n c0) n ts → Calls Try.prog 120 #[celV x (y + 1), celV u v, .slice A0 n c0, .int .i64 (m2 : Int)] X (SNew X ((txM (spF (hasF n ts) u v f x (y + 1))).take m2))) := Lib.hid fun m2 X hm2 h => by
      rw [← txM_take]
      exact ih x (y + 1) _ n ts m2 X (by omega) (by omega) (by omega) hm2 hn h
    have HSA : Hid (∀ k, k < (txM (spF (hasF n ts) u v f (x + 1) y)).length → ((txM (spF (hasF n ts) u v f (x + 1) y)).getD k ByteArray.empty).size ≤ 90) := Lib.hid fun k hk => txM_mem (fun p hp => spF_small hp (by omega)) hk
    have HSB : Hid (∀ k, k < (txM (spF (hasF n ts) u v f x (y + 1))).length → ((txM (spF (hasF n ts) u v f x (y + 1))).getD k ByteArray.empty).size ≤ 90) := Lib.hid fun k hk => txM_mem (fun p hp => spF_small hp (by omega)) hk
    rw [txM_take, txM_app, txM_cons, txM_cons, take_two]
    have HEA : Hid (∀ X, Calls Try.prog 148 #[celV x y] X (Ret X (celV (x + 1) y))) := Lib.hid fun X => east_ret x y X (by omega)
    have HNO : Hid (∀ X, Calls Try.prog 149 #[celV x y] X (Ret X (celV x (y + 1)))) := Lib.hid fun X => north_ret x y X (by omega)
    have hne : (x == u && y == v) = false := by
      rw [Bool.and_eq_false_iff, beq_eq_false_iff_ne, beq_eq_false_iff_ne]
      omega
    have HE2 : ∀ w, (Op.equalIn 10000 103 (.agg #[.int .i64 x, .int .i64 y]) (.agg #[.int .i64 u, .int .i64 v])).run Try.prog w = .ok false w := fun w => by rw [eq_place, hne]
    clear HE hne
    generalize txM (spF (hasF n ts) u v f (x + 1) y) = LA at *
    generalize txM (spF (hasF n ts) u v f x (y + 1)) = LB at *
    obtain ⟨F, hF⟩ : ∃ F : Nat → List ByteArray, F = fun I => if I = 0 then [] else if I = 1 then (LA.map (tx1 69)).take most else (LA.map (tx1 69)).take most ++ (LB.map (tx1 78)).take (most - ((LA.map (tx1 69)).take most).length) := ⟨_, rfl⟩
    have F0 : F 0 = [] := by rw [hF]; rfl
    have F1 : F 1 = (LA.map (tx1 69)).take most := by rw [hF]; rfl
    have F2 : F 2 = F 1 ++ (LB.map (tx1 78)).take (most - (F 1).length) := by rw [F1, hF]; rfl
    rw [← F1, ← F2]
    have HF0 := Lib.hid F0
    have HF1 : Hid (F 1 = [] ++ (LA.take most).map (tx1 69)) := Lib.hid (by rw [F1, List.map_take]; rfl)
    have HF2 : Hid (F 2 = F 1 ++ (LB.take (most - (F 1).length)).map (tx1 78)) := Lib.hid (by rw [F2, List.map_take])
    have hFL : (F 1).length ≤ most := by rw [F1, List.length_take]; omega
    have HFL := Lib.hid hFL
    clear ih h3 h4 h5 hF F0 F1 F2 hFL
    go_enter Try.func120, Try.ntmps120
    go_wp2_with fail
    refine (HC.out _ HX.out.r).mono ?_
    rintro e w1 ⟨rfl, hb1⟩
    have hx1 := HX.out.kept hb1
    have r0 := hx1.c0
    have r1 := hx1.c1
    have r2 := hx1.c2
    have r3 := hx1.c3
    have HB1 := Lib.hid (HBB.out.trans (hb1.mono HBB.out.size))
    have HX1 := Lib.hid hx1
    clear hb1 hx1
    go_wp2_with fail
    clear r0 r1 r2 r3
    have HR0 : Hid (SRow w1 w1.heap.size (.slice none 0 0) (F 0)) := Lib.hid (by rw [HF0.out]; exact SRow.nil _ _)
    go_loopw [9, 40] (fun o i wr => ∃ I : Nat, I ≤ 2 ∧ i = .int .i64 (I : Int) ∧ SRow wr w1.heap.size o (F I) ∧ Below w1.heap.size w1 wr) (fun _ i _ => 2 - (intOf i).toNat)
    case atStart => exact ⟨0, by omega, rfl, HR0.out, Below.refl _ _⟩
    case round =>
      obtain ⟨I, hI, rfl, hrow, hb⟩ := hrel
      clear HR0
      rcases (show I = 0 ∨ I = 1 ∨ I = 2 by omega) with rfl | rfl | rfl
      · have hs0 := HX1.out.kept hb
        have HS0 := Lib.hid hs0
        obtain ⟨P0, hP0⟩ : ∃ P0, F 0 = P0 := ⟨_, rfl⟩
        have HP0 := Lib.hid hP0
        rw [hP0] at hrow
        obtain ⟨A2, c2, rfl⟩ := hrow.shape
        obtain ⟨lf, hlf⟩ : ∃ lf, P0.length = lf := ⟨_, rfl⟩
        have HLF := Lib.hid hlf
        rw [hlf] at hrow ⊢
        have HPW := Lib.hid hrow
        have HBW := Lib.hid hb
        have KO := Lib.hid hrow.blk
        have hl0 : lf = 0 := by rw [← hlf, ← hP0, HF0.out]; rfl
        have hlm : lf ≤ most := by omega
        have HCL : Hid (∀ X, RPls X (.slice A0 n c0) n ts → Calls Try.prog 120 #[celV (x + 1) y, celV u v, .slice A0 n c0, .int .i64 ((most : Int) - (lf : Int))] X (SNew X (LA.take most))) := Lib.hid fun X h => by
          rw [hl0, show (most : Int) - ((0 : Nat) : Int) = (most : Int) by omega]
          exact HA.out X h
        have HNX : Hid (F 1 = P0 ++ (LA.take most).map (tx1 69)) := Lib.hid (by rw [HF1.out, ← hP0, HF0.out])
        have HSZ1 : Hid (∀ k, k < (LA.take most).length → ((LA.take most).getD k ByteArray.empty).size ≤ 90) := Lib.hid fun k hk => by
          rw [List.length_take] at hk
          rw [List.getD_eq_getElem?_getD, List.getElem?_take, if_pos (by omega), ← List.getD_eq_getElem?_getD]
          exact HSA.out k (by omega)
        obtain ⟨LT, hLT⟩ : ∃ LT, LA.take most = LT := ⟨_, rfl⟩
        rw [hLT] at HCL HNX HSZ1
        have hnl : LT.length ≤ 1000000 := by rw [← hLT, List.length_take]; omega
        clear hl0
        obtain ⟨nL, hnL⟩ : ∃ nL, LT.length = nL := ⟨_, rfl⟩
        have HNL := Lib.hid hnL
        rw [hnL] at hnl HSZ1
        have hlf2 : lf ≤ 1000000 := by omega
        clear hs0 hrow hlf hb hP0 hLT hnL HA HB HSA HSB HF0 HF1 HF2 HFL
        go_wp2_with (go_at_call 123; refine (moveOf_E _).mono ?_; rintro e wm ⟨rfl, rfl⟩)
        have HRG0 : ∀ (ac : Act) (ww : World), ∃ uu : Nat → Value, ac = ((((((((((((ac.put (some 49) (uu 0)).put (some 50) (uu 1)).put (some 51) (uu 2)).put (some 52) (uu 3)).put (some 53) (uu 4)).put (some 54) (uu 5)).put (some 55) (uu 6)).put (some 56) (uu 7)).put (some 57) (uu 8)).put (some 58) (uu 9)).put (some 59) (uu 10)).put (some 60) (uu 11)) ∧ RC ww (e_spE x y u v A0 n c0 most A2 lf c2 nL) v_spE r_spE 9 nL (fun X v => SRow X wr.heap.size v LT) (fun _ => false) ww.drew uu := fun ac ww => ⟨fun j => ac.tmps.getD (([49, 50, 51, 52, 53, 54, 55, 56, 57, 58, 59, 60] : List Nat).getD j 0) undef, (by show ac = ((((((((((((ac.put (some 49) (ac.tmps.getD 49 undef)).put (some 50) (ac.tmps.getD 50 undef)).put (some 51) (ac.tmps.getD 51 undef)).put (some 52) (ac.tmps.getD 52 undef)).put (some 53) (ac.tmps.getD 53 undef)).put (some 54) (ac.tmps.getD 54 undef)).put (some 55) (ac.tmps.getD 55 undef)).put (some 56) (ac.tmps.getD 56 undef)).put (some 57) (ac.tmps.getD 57 undef)).put (some 58) (ac.tmps.getD 58 undef)).put (some 59) (ac.tmps.getD 59 undef)).put (some 60) (ac.tmps.getD 60 undef)); simp only [put_same]), RC.start rfl _ _⟩
        refine wp_region_inv3 (fun a0 LL ac W => ∃ uu : Nat → Value, ac = ((((((((((((a0.put (some 49) (uu 0)).put (some 50) (uu 1)).put (some 51) (uu 2)).put (some 52) (uu 3)).put (some 53) (uu 4)).put (some 54) (uu 5)).put (some 55) (uu 6)).put (some 56) (uu 7)).put (some 57) (uu 8)).put (some 58) (uu 9)).put (some 59) (uu 10)).put (some 60) (uu 11)) ∧ RC wr (e_spE x y u v A0 n c0 most A2 lf c2 nL) v_spE r_spE 9 nL (fun X v => SRow X wr.heap.size v LT) LL W uu) (by kernel_rfl) (by kernel_rfl) (HRG0 _ _) ?_ ?_
        · rintro jj op hop LL a' WW ⟨uu, rfl, hF⟩ hL hdep
          clear HRG0
          match jj, hop with
          | 0, hop =>
            simp at hop; subst hop
            refine wpOp_run rfl rfl ?_
            simp only [Act.put, List.setIfInBounds_toArray, List.set_cons_succ, List.set_cons_zero]
            go_simp
            refine ⟨_, ?_, hF.setv ok_spE 0 rfl (.func (.func 148) #[] #[]) rfl⟩
            simp [upg]
          | 1, hop =>
            simp at hop; subst hop
            refine wpOp_run rfl rfl ?_
            simp only [Act.put, List.setIfInBounds_toArray, List.set_cons_succ, List.set_cons_zero]
            have r0 := (HS0.out.kept hF.below).c0
            have r1 := (HS0.out.kept hF.below).c1
            go_simp
            refine ⟨_, ?_, hF.setv ok_spE 1 rfl (.agg #[.int .i64 x, .int .i64 y]) rfl⟩
            simp [upg]
          | 2, hop =>
            simp at hop; subst hop
            refine wpOp_run rfl rfl ?_
            simp only [Act.put, List.setIfInBounds_toArray, List.set_cons_succ, List.set_cons_zero]
            have e0 : uu 0 = .func (.func 148) #[] #[] := hF.val 0 rfl (hdep ⟨0, .data⟩ (by simp) rfl)
            have e1 : uu 1 = .agg #[.int .i64 x, .int .i64 y] := hF.val 1 rfl (hdep ⟨1, .data⟩ (by simp) rfl)
            simp only [e0, e1]
            go_simp
            go_at_call 148
            refine (HEA.out _).mono ?_
            rintro en w' ⟨rfl, hbC⟩
            refine ⟨_, ?_, RC.setv ok_spE (RC.kept (Rw := fun X v => SRow X wr.heap.size v LT) (fun X X' v h hb => SRow.below h hb) hF hbC) 2 rfl (.agg #[.int .i64 (x + 1), .int .i64 y]) rfl⟩
            simp [upg, e0, e1]
          | 3, hop =>
            simp at hop; subst hop
            refine wpOp_run rfl rfl ?_
            simp only [Act.put, List.setIfInBounds_toArray, List.set_cons_succ, List.set_cons_zero]
            have r0 := (HS0.out.kept hF.below).c2
            have r1 := (HS0.out.kept hF.below).c3
            go_simp
            refine ⟨_, ?_, hF.setv ok_spE 3 rfl (.agg #[.int .i64 u, .int .i64 v]) rfl⟩
            simp [upg]
          | 4, hop =>
            simp at hop; subst hop
            refine wpOp_run rfl rfl ?_
            simp only [Act.put, List.setIfInBounds_toArray, List.set_cons_succ, List.set_cons_zero]
            go_simp
            refine ⟨_, ?_, hF.setv ok_spE 4 rfl (.slice A0 n c0) rfl⟩
            simp [upg]
          | 5, hop =>
            simp at hop; subst hop
            refine wpOp_run rfl rfl ?_
            simp only [Act.put, List.setIfInBounds_toArray, List.set_cons_succ, List.set_cons_zero]
            go_simp
            refine ⟨_, ?_, hF.setv ok_spE 5 rfl (.int .i64 (most : Int)) rfl⟩
            simp [upg]
          | 6, hop =>
            simp at hop; subst hop
            refine wpOp_run rfl rfl ?_
            simp only [Act.put, List.setIfInBounds_toArray, List.set_cons_succ, List.set_cons_zero]
            go_simp
            refine ⟨_, ?_, hF.setv ok_spE 6 rfl (.slice A2 lf c2) rfl⟩
            simp [upg]
          | 7, hop =>
            simp at hop; subst hop
            refine wpOp_run rfl rfl ?_
            simp only [Act.put, List.setIfInBounds_toArray, List.set_cons_succ, List.set_cons_zero]
            have e6 : uu 6 = .slice A2 lf c2 := hF.val 6 rfl (hdep ⟨6, .data⟩ (by simp) rfl)
            simp only [e6]
            go_simp
            refine ⟨_, ?_, hF.setv ok_spE 7 rfl (.int .i64 (lf : Int)) rfl⟩
            simp [upg, e6]
          | 8, hop =>
            simp at hop; subst hop
            refine wpOp_run rfl rfl ?_
            simp only [Act.put, List.setIfInBounds_toArray, List.set_cons_succ, List.set_cons_zero]
            have e5 : uu 5 = .int .i64 (most : Int) := hF.val 5 rfl (hdep ⟨5, .data⟩ (by simp) rfl)
            have e7 : uu 7 = .int .i64 (lf : Int) := hF.val 7 rfl (hdep ⟨7, .data⟩ (by simp) rfl)
            simp only [e5, e7]
            have k3 := IntWalk.i64_in ((most : Int) - (lf : Int)) (by omega)
            go_simp
            refine ⟨_, ?_, hF.setv ok_spE 8 rfl (.int .i64 ((most : Int) - (lf : Int))) rfl⟩
            simp [upg, e5, e7]
          | 9, hop =>
            simp at hop; subst hop
            refine wpOp_run rfl rfl ?_
            simp only [Act.put, List.setIfInBounds_toArray, List.set_cons_succ, List.set_cons_zero]
            have e2 : uu 2 = .agg #[.int .i64 (x + 1), .int .i64 y] := hF.val 2 rfl (hdep ⟨2, .data⟩ (by simp) rfl)
            have e3 : uu 3 = .agg #[.int .i64 u, .int .i64 v] := hF.val 3 rfl (hdep ⟨3, .data⟩ (by simp) rfl)
            have e4 : uu 4 = .slice A0 n c0 := hF.val 4 rfl (hdep ⟨4, .data⟩ (by simp) rfl)
            have e8 : uu 8 = .int .i64 ((most : Int) - (lf : Int)) := hF.val 8 rfl (hdep ⟨8, .data⟩ (by simp) rfl)
            simp only [e2, e3, e4, e8]
            go_simp
            go_at_call 120
            refine (HCL.out _ (HS0.out.kept hF.below).r).mono ?_
            rintro en w2 ⟨v2, rfl, hr2, hbC⟩
            obtain ⟨A3, c3, rfl⟩ := hr2.shape
            rw [HNL.out] at hr2 ⊢
            have hrC : SRow w2 wr.heap.size (.slice A3 nL c3) LT := hr2.mono hF.below.size
            refine ⟨_, ?_, RC.setr ok_spE (RC.kept (Rw := fun X v => SRow X wr.heap.size v LT) (fun X X' v h hb => SRow.below h hb) hF hbC) hL A3 c3 hrC⟩
            simp [upg, e2, e3, e4, e8]
          | 10, hop =>
            simp at hop; subst hop
            refine wpOp_run rfl rfl ?_
            simp only [Act.put, List.setIfInBounds_toArray, List.set_cons_succ, List.set_cons_zero]
            have hd9 := hdep ⟨9, .data⟩ (by simp) rfl
            obtain ⟨A3, c3, hres, _⟩ := hF.res
            have e9 : uu 9 = .slice A3 nL c3 := hres 9 rfl hd9
            simp only [e9]
            go_simp
            refine ⟨_, ?_, hF.setv ok_spE 10 rfl (.int .i64 (nL : Int)) rfl⟩
            simp [upg, e9]
          | 11, hop =>
            simp at hop; subst hop
            refine wpOp_run rfl rfl ?_
            simp only [Act.put, List.setIfInBounds_toArray, List.set_cons_succ, List.set_cons_zero]
            go_simp
            refine ⟨_, ?_, hF.setv ok_spE 11 rfl (.int .i64 0) rfl⟩
            simp [upg]
          | jj + 12, hop => simp at hop
        · rintro LL a' WW hall ⟨uu, rfl, hF⟩
          clear HRG0
          have e0 : uu 0 = .func (.func 148) #[] #[] := hF.val 0 rfl (hall 0 (by simp))
          have e1 : uu 1 = .agg #[.int .i64 x, .int .i64 y] := hF.val 1 rfl (hall 1 (by simp))
          have e2 : uu 2 = .agg #[.int .i64 (x + 1), .int .i64 y] := hF.val 2 rfl (hall 2 (by simp))
          have e3 : uu 3 = .agg #[.int .i64 u, .int .i64 v] := hF.val 3 rfl (hall 3 (by simp))
          have e4 : uu 4 = .slice A0 n c0 := hF.val 4 rfl (hall 4 (by simp))
          have e5 : uu 5 = .int .i64 (most : Int) := hF.val 5 rfl (hall 5 (by simp))
          have e6 : uu 6 = .slice A2 lf c2 := hF.val 6 rfl (hall 6 (by simp))
          have e7 : uu 7 = .int .i64 (lf : Int) := hF.val 7 rfl (hall 7 (by simp))
          have e8 : uu 8 = .int .i64 ((most : Int) - (lf : Int)) := hF.val 8 rfl (hall 8 (by simp))
          have e10 : uu 10 = .int .i64 (nL : Int) := hF.val 10 rfl (hall 10 (by simp))
          have e11 : uu 11 = .int .i64 0 := hF.val 11 rfl (hall 11 (by simp))
          obtain ⟨A3, c3, hres, hrw⟩ := hF.res
          have e9 : uu 9 = .slice A3 nL c3 := hres 9 rfl (hall 9 (by simp))
          have HRW := Lib.hid (hrw ⟨9, rfl, hall 9 (by simp)⟩)
          have HBL := Lib.hid hF.below
          clear hF hall hres hrw
          simp only [Act.put, List.setIfInBounds_toArray, List.set_cons_succ, List.set_cons_zero]
          simp only [e0, e1, e2, e3, e4, e5, e6, e7, e8, e10, e11, e9]
          clear e0 e1 e2 e3 e4 e5 e6 e7 e8 e10 e11 e9
          have K2 := Lib.hid HRW.out.blk
          have HPW2 := Lib.hid (HPW.out.below HBL.out)
          have HBW2 := Lib.hid (HBW.out.trans (HBL.out.mono HBW.out.size))
          have HZ2 := Lib.hid HBL.out.size
          have z2 := HBL.out.size
          clear HBL HPW HBW
          obtain ⟨wp, hwp⟩ : ∃ wp, wp = wr.heap.size := ⟨_, rfl⟩
          rw [← hwp] at HRW K2 KO z2
          clear hwp HZ2
          go_wp2_with fail
          go_loopw [9, 60] (fun o i wq => ∃ j : Nat, j ≤ nL ∧ i = .int .i64 (j : Int) ∧ SRow wq w1.heap.size o (P0 ++ (LT.take j).map (tx1 69)) ∧ SRow wq wp (.slice A3 nL c3) LT ∧ (∀ q, o.ownBlock = some q → q < wp ∨ WW.heap.size ≤ q) ∧ WW.heap.size ≤ wq.heap.size ∧ Below w1.heap.size w1 wq) (fun _ i _ => nL - (intOf i).toNat)
          case atStart => exact ⟨0, Nat.zero_le _, rfl, by simpa using HPW2.out, HRW.out, fun q hq => .inl (KO.out q hq).2, Nat.le_refl _, HBW2.out⟩
          case round =>
            obtain ⟨j, hj, rfl, hrow, hr2, hob, hsz, hb⟩ := hrel
            clear HPW2 HBW2 HRW
            have hln : (P0 ++ (LT.take j).map (tx1 69)).length = lf + j := by rw [List.length_append, HLF.out, List.length_map, List.length_take, HNL.out]; omega
            obtain ⟨A6, c6, rfl⟩ := hrow.shape
            rw [hln] at hrow hob ⊢
            by_cases hlj : j < nL
            · obtain ⟨g, cc, hv, _, hgl⟩ := hr2.form' HNL.out (by omega)
              injection hv with hv hnn hcc
              subst hv
              subst hcc
              clear hnn
              have e0 := hr2.cell (j := j) (by rw [HNL.out]; exact hlj)
              have hss := HSZ1.out j hlj
              have HMT := Lib.hid (map_take_succ 69 LT (k := j) (by rw [HNL.out]; exact hlj))
              have i2 : (j : Int) < (nL : Int) := by omega
              have i3 : 0 ≤ (j : Int) := by omega
              have HROW := Lib.hid hrow
              have HBW := Lib.hid hb
              have HLJ := Lib.hid hln
              have HR2 := Lib.hid hr2
              have HOB := Lib.hid hob
              clear hrow hb hln hr2 hob
              generalize LT.getD j ByteArray.empty = s at *
              have HQ : Hid (P0 ++ (LT.take j).map (tx1 69) ++ [tx1 69 s] = P0 ++ (LT.take (j + 1)).map (tx1 69)) := Lib.hid (by rw [List.append_assoc, HMT.out])
              generalize P0 ++ (LT.take j).map (tx1 69) = Q at *
              have HJN : Hid (∀ (X : World) (g : Nat), g = X.heap.size → Calls Try.prog 147 #[.slice (some ⟨g, 0, none⟩) 2 2] (X.alloc (.cells #[.string ⟨#[69]⟩, .string s] 9)) fun e w' => e = .returned (.string (tx1 69 s)) ∧ Below X.heap.size X w') := Lib.hid fun X g hg => join_dir 69 s hss X g hg
              have hdir := dir_E
              clear HMT
              generalize tx1 69 s = ns at *
              go_wp2_with fail
              first | (rw [hdir]) | skip
              refine (HJN.out _ _ rfl).mono ?_
              rintro e w5 ⟨rfl, hb5⟩
              have HROW5 := Lib.hid (HROW.out.below hb5)
              have HR25 := Lib.hid (HR2.out.below hb5)
              have HBW5 := Lib.hid (HBW.out.trans (hb5.mono HBW.out.size))
              have z5 := hb5.size
              clear hb5
              go_wp2_with (at_builtin; refine wpList_pushS (.tmp 64) (.tmp 72) rfl rfl w1.heap.size _ Q rfl HROW5.out rfl (by rw [HLJ.out]; omega) HBW5.out.size ?_; intro v' w' hr' hg' hat')
              have hb' : Below w1.heap.size w1 w' := HBW5.out.grown hg' HBW5.out.size (fun q hq => (HROW5.out.blk q hq).1)
              have h2' : SRow w' wp (.slice (some ⟨g, 0, none⟩) nL c3) LT := HR25.out.apart hg' (fun q hq e2 => by have a := K2.out q hq; have b := HOB.out q e2.symm; omega)
              have hob' : ∀ q, v'.ownBlock = some q → q < wp ∨ WW.heap.size ≤ q := fun q hq => by
                rcases hat' with e | ⟨g', e, hge⟩
                · rw [e] at hq; exact HOB.out q hq
                · rw [e] at hq
                  injection hq with hq
                  omega
              rw [HQ.out] at hr'
              have HR' := Lib.hid hr'
              have HB' := Lib.hid hb'
              have H2' := Lib.hid h2'
              have HOB' := Lib.hid hob'
              have HSZ := Lib.hid (Nat.le_trans hsz (Nat.le_trans z5 hg'.size))
              obtain ⟨A5, c5, rfl⟩ := hr'.shape
              clear hr' hg' hat' hb' h2' hob'
              go_wp2_with fail
              go_roundw
              case rel => exact ⟨j + 1, by omega, by go_num, HR'.out, H2'.out, HOB'.out, HSZ.out, HB'.out⟩
              case measure => first | (simp [intOf]; done) | (simp [intOf]; omega)
            · obtain rfl : j = nL := by omega
              have HTK : Hid (LT.take j = LT) := Lib.hid (List.take_of_length_le (by rw [HNL.out]; omega))
              rw [HTK.out, ← HNX.out] at hrow
              have HROW := Lib.hid hrow
              have HBW := Lib.hid hb
              clear hrow hb hr2 hob HTK
              go_wp2_with fail
              go_roundw
              case rel => exact ⟨1, by omega, by go_num, HROW.out, HBW.out⟩
              case measure => first | (simp [intOf]; done) | (simp [intOf]; omega)
      · have hs0 := HX1.out.kept hb
        have HS0 := Lib.hid hs0
        obtain ⟨P0, hP0⟩ : ∃ P0, F 1 = P0 := ⟨_, rfl⟩
        have HP0 := Lib.hid hP0
        rw [hP0] at hrow
        obtain ⟨A2, c2, rfl⟩ := hrow.shape
        obtain ⟨lf, hlf⟩ : ∃ lf, P0.length = lf := ⟨_, rfl⟩
        have HLF := Lib.hid hlf
        rw [hlf] at hrow ⊢
        have HPW := Lib.hid hrow
        have HBW := Lib.hid hb
        have KO := Lib.hid hrow.blk
        have hlm : lf ≤ most := by rw [← hlf, ← hP0]; exact HFL.out
        have HCL : Hid (∀ X, RPls X (.slice A0 n c0) n ts → Calls Try.prog 120 #[celV x (y + 1), celV u v, .slice A0 n c0, .int .i64 ((most : Int) - (lf : Int))] X (SNew X (LB.take (most - lf)))) := Lib.hid fun X h => by
          rw [show (most : Int) - (lf : Int) = ((most - lf : Nat) : Int) by omega]
          exact HB.out (most - lf) X (by omega) h
        have HNX : Hid (F 2 = P0 ++ (LB.take (most - lf)).map (tx1 78)) := Lib.hid (by rw [HF2.out, hP0, hlf])
        have HSZ1 : Hid (∀ k, k < (LB.take (most - lf)).length → ((LB.take (most - lf)).getD k ByteArray.empty).size ≤ 90) := Lib.hid fun k hk => by
          rw [List.length_take] at hk
          rw [List.getD_eq_getElem?_getD, List.getElem?_take, if_pos (by omega), ← List.getD_eq_getElem?_getD]
          exact HSB.out k (by omega)
        obtain ⟨LT, hLT⟩ : ∃ LT, LB.take (most - lf) = LT := ⟨_, rfl⟩
        rw [hLT] at HCL HNX HSZ1
        have hnl : LT.length ≤ 1000000 := by rw [← hLT, List.length_take]; omega
        obtain ⟨nL, hnL⟩ : ∃ nL, LT.length = nL := ⟨_, rfl⟩
        have HNL := Lib.hid hnL
        rw [hnL] at hnl HSZ1
        have hlf2 : lf ≤ 1000000 := by omega
        clear hs0 hrow hlf hb hP0 hLT hnL HA HB HSA HSB HF0 HF1 HF2 HFL
        go_wp2_with (go_at_call 123; refine (moveOf_N _).mono ?_; rintro e wm ⟨rfl, rfl⟩)
        have HRG0 : ∀ (ac : Act) (ww : World), ∃ uu : Nat → Value, ac = ((((((((((((ac.put (some 49) (uu 0)).put (some 50) (uu 1)).put (some 51) (uu 2)).put (some 52) (uu 3)).put (some 53) (uu 4)).put (some 54) (uu 5)).put (some 55) (uu 6)).put (some 56) (uu 7)).put (some 57) (uu 8)).put (some 58) (uu 9)).put (some 59) (uu 10)).put (some 60) (uu 11)) ∧ RC ww (e_spN x y u v A0 n c0 most A2 lf c2 nL) v_spN r_spN 9 nL (fun X v => SRow X wr.heap.size v LT) (fun _ => false) ww.drew uu := fun ac ww => ⟨fun j => ac.tmps.getD (([49, 50, 51, 52, 53, 54, 55, 56, 57, 58, 59, 60] : List Nat).getD j 0) undef, (by show ac = ((((((((((((ac.put (some 49) (ac.tmps.getD 49 undef)).put (some 50) (ac.tmps.getD 50 undef)).put (some 51) (ac.tmps.getD 51 undef)).put (some 52) (ac.tmps.getD 52 undef)).put (some 53) (ac.tmps.getD 53 undef)).put (some 54) (ac.tmps.getD 54 undef)).put (some 55) (ac.tmps.getD 55 undef)).put (some 56) (ac.tmps.getD 56 undef)).put (some 57) (ac.tmps.getD 57 undef)).put (some 58) (ac.tmps.getD 58 undef)).put (some 59) (ac.tmps.getD 59 undef)).put (some 60) (ac.tmps.getD 60 undef)); simp only [put_same]), RC.start rfl _ _⟩
        refine wp_region_inv3 (fun a0 LL ac W => ∃ uu : Nat → Value, ac = ((((((((((((a0.put (some 49) (uu 0)).put (some 50) (uu 1)).put (some 51) (uu 2)).put (some 52) (uu 3)).put (some 53) (uu 4)).put (some 54) (uu 5)).put (some 55) (uu 6)).put (some 56) (uu 7)).put (some 57) (uu 8)).put (some 58) (uu 9)).put (some 59) (uu 10)).put (some 60) (uu 11)) ∧ RC wr (e_spN x y u v A0 n c0 most A2 lf c2 nL) v_spN r_spN 9 nL (fun X v => SRow X wr.heap.size v LT) LL W uu) (by kernel_rfl) (by kernel_rfl) (HRG0 _ _) ?_ ?_
        · rintro jj op hop LL a' WW ⟨uu, rfl, hF⟩ hL hdep
          clear HRG0
          match jj, hop with
          | 0, hop =>
            simp at hop; subst hop
            refine wpOp_run rfl rfl ?_
            simp only [Act.put, List.setIfInBounds_toArray, List.set_cons_succ, List.set_cons_zero]
            go_simp
            refine ⟨_, ?_, hF.setv ok_spN 0 rfl (.func (.func 149) #[] #[]) rfl⟩
            simp [upg]
          | 1, hop =>
            simp at hop; subst hop
            refine wpOp_run rfl rfl ?_
            simp only [Act.put, List.setIfInBounds_toArray, List.set_cons_succ, List.set_cons_zero]
            have r0 := (HS0.out.kept hF.below).c0
            have r1 := (HS0.out.kept hF.below).c1
            go_simp
            refine ⟨_, ?_, hF.setv ok_spN 1 rfl (.agg #[.int .i64 x, .int .i64 y]) rfl⟩
            simp [upg]
          | 2, hop =>
            simp at hop; subst hop
            refine wpOp_run rfl rfl ?_
            simp only [Act.put, List.setIfInBounds_toArray, List.set_cons_succ, List.set_cons_zero]
            have e0 : uu 0 = .func (.func 149) #[] #[] := hF.val 0 rfl (hdep ⟨0, .data⟩ (by simp) rfl)
            have e1 : uu 1 = .agg #[.int .i64 x, .int .i64 y] := hF.val 1 rfl (hdep ⟨1, .data⟩ (by simp) rfl)
            simp only [e0, e1]
            go_simp
            go_at_call 149
            refine (HNO.out _).mono ?_
            rintro en w' ⟨rfl, hbC⟩
            refine ⟨_, ?_, RC.setv ok_spN (RC.kept (Rw := fun X v => SRow X wr.heap.size v LT) (fun X X' v h hb => SRow.below h hb) hF hbC) 2 rfl (.agg #[.int .i64 x, .int .i64 (y + 1)]) rfl⟩
            simp [upg, e0, e1]
          | 3, hop =>
            simp at hop; subst hop
            refine wpOp_run rfl rfl ?_
            simp only [Act.put, List.setIfInBounds_toArray, List.set_cons_succ, List.set_cons_zero]
            have r0 := (HS0.out.kept hF.below).c2
            have r1 := (HS0.out.kept hF.below).c3
            go_simp
            refine ⟨_, ?_, hF.setv ok_spN 3 rfl (.agg #[.int .i64 u, .int .i64 v]) rfl⟩
            simp [upg]
          | 4, hop =>
            simp at hop; subst hop
            refine wpOp_run rfl rfl ?_
            simp only [Act.put, List.setIfInBounds_toArray, List.set_cons_succ, List.set_cons_zero]
            go_simp
            refine ⟨_, ?_, hF.setv ok_spN 4 rfl (.slice A0 n c0) rfl⟩
            simp [upg]
          | 5, hop =>
            simp at hop; subst hop
            refine wpOp_run rfl rfl ?_
            simp only [Act.put, List.setIfInBounds_toArray, List.set_cons_succ, List.set_cons_zero]
            go_simp
            refine ⟨_, ?_, hF.setv ok_spN 5 rfl (.int .i64 (most : Int)) rfl⟩
            simp [upg]
          | 6, hop =>
            simp at hop; subst hop
            refine wpOp_run rfl rfl ?_
            simp only [Act.put, List.setIfInBounds_toArray, List.set_cons_succ, List.set_cons_zero]
            go_simp
            refine ⟨_, ?_, hF.setv ok_spN 6 rfl (.slice A2 lf c2) rfl⟩
            simp [upg]
          | 7, hop =>
            simp at hop; subst hop
            refine wpOp_run rfl rfl ?_
            simp only [Act.put, List.setIfInBounds_toArray, List.set_cons_succ, List.set_cons_zero]
            have e6 : uu 6 = .slice A2 lf c2 := hF.val 6 rfl (hdep ⟨6, .data⟩ (by simp) rfl)
            simp only [e6]
            go_simp
            refine ⟨_, ?_, hF.setv ok_spN 7 rfl (.int .i64 (lf : Int)) rfl⟩
            simp [upg, e6]
          | 8, hop =>
            simp at hop; subst hop
            refine wpOp_run rfl rfl ?_
            simp only [Act.put, List.setIfInBounds_toArray, List.set_cons_succ, List.set_cons_zero]
            have e5 : uu 5 = .int .i64 (most : Int) := hF.val 5 rfl (hdep ⟨5, .data⟩ (by simp) rfl)
            have e7 : uu 7 = .int .i64 (lf : Int) := hF.val 7 rfl (hdep ⟨7, .data⟩ (by simp) rfl)
            simp only [e5, e7]
            have k3 := IntWalk.i64_in ((most : Int) - (lf : Int)) (by omega)
            go_simp
            refine ⟨_, ?_, hF.setv ok_spN 8 rfl (.int .i64 ((most : Int) - (lf : Int))) rfl⟩
            simp [upg, e5, e7]
          | 9, hop =>
            simp at hop; subst hop
            refine wpOp_run rfl rfl ?_
            simp only [Act.put, List.setIfInBounds_toArray, List.set_cons_succ, List.set_cons_zero]
            have e2 : uu 2 = .agg #[.int .i64 x, .int .i64 (y + 1)] := hF.val 2 rfl (hdep ⟨2, .data⟩ (by simp) rfl)
            have e3 : uu 3 = .agg #[.int .i64 u, .int .i64 v] := hF.val 3 rfl (hdep ⟨3, .data⟩ (by simp) rfl)
            have e4 : uu 4 = .slice A0 n c0 := hF.val 4 rfl (hdep ⟨4, .data⟩ (by simp) rfl)
            have e8 : uu 8 = .int .i64 ((most : Int) - (lf : Int)) := hF.val 8 rfl (hdep ⟨8, .data⟩ (by simp) rfl)
            simp only [e2, e3, e4, e8]
            go_simp
            go_at_call 120
            refine (HCL.out _ (HS0.out.kept hF.below).r).mono ?_
            rintro en w2 ⟨v2, rfl, hr2, hbC⟩
            obtain ⟨A3, c3, rfl⟩ := hr2.shape
            rw [HNL.out] at hr2 ⊢
            have hrC : SRow w2 wr.heap.size (.slice A3 nL c3) LT := hr2.mono hF.below.size
            refine ⟨_, ?_, RC.setr ok_spN (RC.kept (Rw := fun X v => SRow X wr.heap.size v LT) (fun X X' v h hb => SRow.below h hb) hF hbC) hL A3 c3 hrC⟩
            simp [upg, e2, e3, e4, e8]
          | 10, hop =>
            simp at hop; subst hop
            refine wpOp_run rfl rfl ?_
            simp only [Act.put, List.setIfInBounds_toArray, List.set_cons_succ, List.set_cons_zero]
            have hd9 := hdep ⟨9, .data⟩ (by simp) rfl
            obtain ⟨A3, c3, hres, _⟩ := hF.res
            have e9 : uu 9 = .slice A3 nL c3 := hres 9 rfl hd9
            simp only [e9]
            go_simp
            refine ⟨_, ?_, hF.setv ok_spN 10 rfl (.int .i64 (nL : Int)) rfl⟩
            simp [upg, e9]
          | 11, hop =>
            simp at hop; subst hop
            refine wpOp_run rfl rfl ?_
            simp only [Act.put, List.setIfInBounds_toArray, List.set_cons_succ, List.set_cons_zero]
            go_simp
            refine ⟨_, ?_, hF.setv ok_spN 11 rfl (.int .i64 0) rfl⟩
            simp [upg]
          | jj + 12, hop => simp at hop
        · rintro LL a' WW hall ⟨uu, rfl, hF⟩
          clear HRG0
          have e0 : uu 0 = .func (.func 149) #[] #[] := hF.val 0 rfl (hall 0 (by simp))
          have e1 : uu 1 = .agg #[.int .i64 x, .int .i64 y] := hF.val 1 rfl (hall 1 (by simp))
          have e2 : uu 2 = .agg #[.int .i64 x, .int .i64 (y + 1)] := hF.val 2 rfl (hall 2 (by simp))
          have e3 : uu 3 = .agg #[.int .i64 u, .int .i64 v] := hF.val 3 rfl (hall 3 (by simp))
          have e4 : uu 4 = .slice A0 n c0 := hF.val 4 rfl (hall 4 (by simp))
          have e5 : uu 5 = .int .i64 (most : Int) := hF.val 5 rfl (hall 5 (by simp))
          have e6 : uu 6 = .slice A2 lf c2 := hF.val 6 rfl (hall 6 (by simp))
          have e7 : uu 7 = .int .i64 (lf : Int) := hF.val 7 rfl (hall 7 (by simp))
          have e8 : uu 8 = .int .i64 ((most : Int) - (lf : Int)) := hF.val 8 rfl (hall 8 (by simp))
          have e10 : uu 10 = .int .i64 (nL : Int) := hF.val 10 rfl (hall 10 (by simp))
          have e11 : uu 11 = .int .i64 0 := hF.val 11 rfl (hall 11 (by simp))
          obtain ⟨A3, c3, hres, hrw⟩ := hF.res
          have e9 : uu 9 = .slice A3 nL c3 := hres 9 rfl (hall 9 (by simp))
          have HRW := Lib.hid (hrw ⟨9, rfl, hall 9 (by simp)⟩)
          have HBL := Lib.hid hF.below
          clear hF hall hres hrw
          simp only [Act.put, List.setIfInBounds_toArray, List.set_cons_succ, List.set_cons_zero]
          simp only [e0, e1, e2, e3, e4, e5, e6, e7, e8, e10, e11, e9]
          clear e0 e1 e2 e3 e4 e5 e6 e7 e8 e10 e11 e9
          have K2 := Lib.hid HRW.out.blk
          have HPW2 := Lib.hid (HPW.out.below HBL.out)
          have HBW2 := Lib.hid (HBW.out.trans (HBL.out.mono HBW.out.size))
          have HZ2 := Lib.hid HBL.out.size
          have z2 := HBL.out.size
          clear HBL HPW HBW
          obtain ⟨wp, hwp⟩ : ∃ wp, wp = wr.heap.size := ⟨_, rfl⟩
          rw [← hwp] at HRW K2 KO z2
          clear hwp HZ2
          go_wp2_with fail
          go_loopw [9, 60] (fun o i wq => ∃ j : Nat, j ≤ nL ∧ i = .int .i64 (j : Int) ∧ SRow wq w1.heap.size o (P0 ++ (LT.take j).map (tx1 78)) ∧ SRow wq wp (.slice A3 nL c3) LT ∧ (∀ q, o.ownBlock = some q → q < wp ∨ WW.heap.size ≤ q) ∧ WW.heap.size ≤ wq.heap.size ∧ Below w1.heap.size w1 wq) (fun _ i _ => nL - (intOf i).toNat)
          case atStart => exact ⟨0, Nat.zero_le _, rfl, by simpa using HPW2.out, HRW.out, fun q hq => .inl (KO.out q hq).2, Nat.le_refl _, HBW2.out⟩
          case round =>
            obtain ⟨j, hj, rfl, hrow, hr2, hob, hsz, hb⟩ := hrel
            clear HPW2 HBW2 HRW
            have hln : (P0 ++ (LT.take j).map (tx1 78)).length = lf + j := by rw [List.length_append, HLF.out, List.length_map, List.length_take, HNL.out]; omega
            obtain ⟨A6, c6, rfl⟩ := hrow.shape
            rw [hln] at hrow hob ⊢
            by_cases hlj : j < nL
            · obtain ⟨g, cc, hv, _, hgl⟩ := hr2.form' HNL.out (by omega)
              injection hv with hv hnn hcc
              subst hv
              subst hcc
              clear hnn
              have e0 := hr2.cell (j := j) (by rw [HNL.out]; exact hlj)
              have hss := HSZ1.out j hlj
              have HMT := Lib.hid (map_take_succ 78 LT (k := j) (by rw [HNL.out]; exact hlj))
              have i2 : (j : Int) < (nL : Int) := by omega
              have i3 : 0 ≤ (j : Int) := by omega
              have HROW := Lib.hid hrow
              have HBW := Lib.hid hb
              have HLJ := Lib.hid hln
              have HR2 := Lib.hid hr2
              have HOB := Lib.hid hob
              clear hrow hb hln hr2 hob
              generalize LT.getD j ByteArray.empty = s at *
              have HQ : Hid (P0 ++ (LT.take j).map (tx1 78) ++ [tx1 78 s] = P0 ++ (LT.take (j + 1)).map (tx1 78)) := Lib.hid (by rw [List.append_assoc, HMT.out])
              generalize P0 ++ (LT.take j).map (tx1 78) = Q at *
              have HJN : Hid (∀ (X : World) (g : Nat), g = X.heap.size → Calls Try.prog 147 #[.slice (some ⟨g, 0, none⟩) 2 2] (X.alloc (.cells #[.string ⟨#[78]⟩, .string s] 9)) fun e w' => e = .returned (.string (tx1 78 s)) ∧ Below X.heap.size X w') := Lib.hid fun X g hg => join_dir 78 s hss X g hg
              have hdir := dir_N
              clear HMT
              generalize tx1 78 s = ns at *
              go_wp2_with fail
              first | (rw [hdir]) | skip
              refine (HJN.out _ _ rfl).mono ?_
              rintro e w5 ⟨rfl, hb5⟩
              have HROW5 := Lib.hid (HROW.out.below hb5)
              have HR25 := Lib.hid (HR2.out.below hb5)
              have HBW5 := Lib.hid (HBW.out.trans (hb5.mono HBW.out.size))
              have z5 := hb5.size
              clear hb5
              go_wp2_with (at_builtin; refine wpList_pushS (.tmp 64) (.tmp 72) rfl rfl w1.heap.size _ Q rfl HROW5.out rfl (by rw [HLJ.out]; omega) HBW5.out.size ?_; intro v' w' hr' hg' hat')
              have hb' : Below w1.heap.size w1 w' := HBW5.out.grown hg' HBW5.out.size (fun q hq => (HROW5.out.blk q hq).1)
              have h2' : SRow w' wp (.slice (some ⟨g, 0, none⟩) nL c3) LT := HR25.out.apart hg' (fun q hq e2 => by have a := K2.out q hq; have b := HOB.out q e2.symm; omega)
              have hob' : ∀ q, v'.ownBlock = some q → q < wp ∨ WW.heap.size ≤ q := fun q hq => by
                rcases hat' with e | ⟨g', e, hge⟩
                · rw [e] at hq; exact HOB.out q hq
                · rw [e] at hq
                  injection hq with hq
                  omega
              rw [HQ.out] at hr'
              have HR' := Lib.hid hr'
              have HB' := Lib.hid hb'
              have H2' := Lib.hid h2'
              have HOB' := Lib.hid hob'
              have HSZ := Lib.hid (Nat.le_trans hsz (Nat.le_trans z5 hg'.size))
              obtain ⟨A5, c5, rfl⟩ := hr'.shape
              clear hr' hg' hat' hb' h2' hob'
              go_wp2_with fail
              go_roundw
              case rel => exact ⟨j + 1, by omega, by go_num, HR'.out, H2'.out, HOB'.out, HSZ.out, HB'.out⟩
              case measure => first | (simp [intOf]; done) | (simp [intOf]; omega)
            · obtain rfl : j = nL := by omega
              have HTK : Hid (LT.take j = LT) := Lib.hid (List.take_of_length_le (by rw [HNL.out]; omega))
              rw [HTK.out, ← HNX.out] at hrow
              have HROW := Lib.hid hrow
              have HBW := Lib.hid hb
              clear hrow hb hr2 hob HTK
              go_wp2_with fail
              go_roundw
              case rel => exact ⟨2, by omega, by go_num, HROW.out, HBW.out⟩
              case measure => first | (simp [intOf]; done) | (simp [intOf]; omega)
      · have HROW := Lib.hid (hrow.mono HB1.out.size)
        have HBW := Lib.hid (HB1.out.trans (hb.mono HB1.out.size))
        obtain ⟨A2, c2, rfl⟩ := hrow.shape
        clear hrow hb
        go_wp2_with fail
        go_ret
        exact ⟨_, rfl, HROW.out, HBW.out⟩
end Go.Proofs.Ytnlmjeakdjmohaa

/- The program's CountWays. -/
namespace Go.Proofs.Ytnlmjeakdjmohaa
open Go.RowKit
set_option linter.unusedVariables false
theorem cnt_nc {x y u v : Int} (h1 : cellB x y = true) (h2 : cellB u v = true) : cntV (v - y) (u - x) = ncV x y u v := by
  have a := (cellB_iff _ _).1 h1
  have b := (cellB_iff _ _).1 h2
  unfold cntV ncV
  by_cases hx : u - x < 0 ∨ v - y < 0
  · rw [if_pos hx]
    have : cntOk (v - y) (u - x) = false := by
      unfold cntOk
      rcases hx with h | h
      · rw [show decide (0 ≤ u - x) = false from decide_eq_false (by omega)]
        simp
      · rw [show decide (0 ≤ v - y) = false from decide_eq_false (by omega)]
        simp
    rw [this]
    rfl
  · rw [if_neg hx]
    have : cntOk (v - y) (u - x) = true := by
      unfold cntOk
      rw [decide_eq_true (show 0 ≤ v - y by omega), decide_eq_true (show 0 ≤ u - x by omega), decide_eq_true (show v - y + (u - x) ≤ 40 by omega)]
      rfl
    rw [this, if_pos rfl]
    obtain ⟨p, hp⟩ := Int.eq_ofNat_of_zero_le (show 0 ≤ v - y by omega)
    obtain ⟨q, hq⟩ := Int.eq_ofNat_of_zero_le (show 0 ≤ u - x by omega)
    rw [hp, hq]
    have e1 := chZ_nat (p + q) p
    have e2 := chZ_nat (q + p) q
    rw [Int.natCast_add] at e1 e2
    exact e1.trans ((by rw [chs_symm p q, Nat.add_comm p q] : ((chs (p + q) p : Nat) : Int) = ((chs (q + p) q : Nat) : Int)).trans e2.symm)
set_option maxRecDepth 100000 in
set_option maxHeartbeats 1000000 in
theorem countWaysI_ret (x y u v : Int) (w : World) : Calls Try.prog 127 #[celV x y, celV u v] w (Ret w (.tuple #[.int .i64 (cyV x y u v), .bool (cyOk x y u v)])) := by
  have HX := Lib.hid (C2.start w x y u v)
  have c0 := HX.out.a0
  have c1 := HX.out.a1
  have H1 : Hid (∀ w, Calls Try.prog 122 #[celV x y] w (Ret w (.bool (cellB x y)))) := Lib.hid fun w => isCellI_ret x y w
  have H2 : Hid (∀ w, Calls Try.prog 122 #[celV u v] w (Ret w (.bool (cellB u v)))) := Lib.hid fun w => isCellI_ret u v w
  rcases Bool.eq_false_or_eq_true (cellB x y) with a1 | a1
  · rcases Bool.eq_false_or_eq_true (cellB u v) with a2 | a2
    · have hok : cyOk x y u v = true := by unfold cyOk; rw [a1, a2]; rfl
      have e1 : cyV x y u v = ncV x y u v := by unfold cyV; rw [if_pos hok]
      have h1 := (cellB_iff _ _).1 a1
      have h2 := (cellB_iff _ _).1 a2
      have HN : Hid (∀ w, Calls Try.prog 88 #[.int .i64 (v - y), .int .i64 (u - x)] w fun e w' => e = .returned (.tuple #[.int .i64 (ncV x y u v), .bool (cntOk (v - y) (u - x))]) ∧ w = w') := Lib.hid fun w => by rw [← cnt_nc a1 a2]; exact count_ret _ _ w
      have k1 := IntWalk.i64_in (u - x) (by omega)
      have k2 := IntWalk.i64_in (v - y) (by omega)
      rw [e1, hok]
      rw [a1] at H1
      rw [a2] at H2
      generalize ncV x y u v = z at *
      generalize cntOk (v - y) (u - x) = bb at *
      clear hok e1 a1 a2 h1 h2
      go_enter Try.func127, Try.ntmps127
      go_wp2_with fail
      refine (H1.out _).mono ?_
      rintro e w1 ⟨rfl, hb1⟩
      have hx := HX.out.kept hb1
      have r2 := hx.b0
      have r3 := hx.b1
      have HX1 := Lib.hid hx
      clear hx hb1
      go_wp2_with fail
      refine (H2.out _).mono ?_
      rintro e w2 ⟨rfl, hb2⟩
      have hx := HX1.out.kept hb2
      clear r2 r3
      have r0 := hx.a0
      have r1 := hx.a1
      have r2 := hx.b0
      have r3 := hx.b1
      have HX2 := Lib.hid hx
      clear hx hb2
      go_wp2_with fail
      refine (HN.out _).mono ?_
      rintro e w3 ⟨rfl, rfl⟩
      go_wp2_with fail
      go_ret2
      exact ⟨rfl, HX2.out.below⟩
    · have hok : cyOk x y u v = false := by unfold cyOk; rw [a1, a2]; rfl
      have e1 : cyV x y u v = 0 := by simp [cyV, hok]
      rw [e1, hok]
      rw [a1] at H1
      rw [a2] at H2
      clear hok e1 a1 a2
      go_enter Try.func127, Try.ntmps127
      go_wp2_with fail
      refine (H1.out _).mono ?_
      rintro e w1 ⟨rfl, hb1⟩
      have hx := HX.out.kept hb1
      have r2 := hx.b0
      have r3 := hx.b1
      have HX1 := Lib.hid hx
      clear hx hb1
      go_wp2_with fail
      refine (H2.out _).mono ?_
      rintro e w2 ⟨rfl, hb2⟩
      have HX2 := Lib.hid (HX1.out.kept hb2)
      clear hb2
      go_wp2_with fail
      go_ret2
      exact ⟨rfl, HX2.out.below⟩
  · have hok : cyOk x y u v = false := by unfold cyOk; rw [a1]; rfl
    have e1 : cyV x y u v = 0 := by simp [cyV, hok]
    rw [e1, hok]
    rw [a1] at H1
    clear hok e1 a1 H2
    go_enter Try.func127, Try.ntmps127
    go_wp2_with fail
    refine (H1.out _).mono ?_
    rintro e w1 ⟨rfl, hb1⟩
    have HX1 := Lib.hid (HX.out.kept hb1)
    clear hb1
    go_wp2_with fail
    go_ret2
    exact ⟨rfl, HX1.out.below⟩
end Go.Proofs.Ytnlmjeakdjmohaa
