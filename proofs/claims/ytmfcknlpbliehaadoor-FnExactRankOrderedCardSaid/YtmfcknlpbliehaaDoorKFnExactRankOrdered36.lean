/- Pack 36 of what FnExactRankOrdered needs: VtM, VtT. -/
import Derived.Test.YtmfcknlpbliehaaDoorKFnExactRankOrdered35
import Derived.Deep.QuietTactic
import Derived.BigQuiet
import Derived.IntWalk
/- The table of ways: what stands in it when the loops stand at a place. -/
namespace Go.Proofs.YtmfcknlpbliehaaDoor
set_option linter.unusedVariables false
def lex (q : Nat → Nat) (a b c d : Int) : Prop := ((q 0 : Nat) : Int) > a ∨ (((q 0 : Nat) : Int) = a ∧ (((q 1 : Nat) : Int) > b ∨ (((q 1 : Nat) : Int) = b ∧ (((q 2 : Nat) : Int) > c ∨ (((q 2 : Nat) : Int) = c ∧ ((q 3 : Nat) : Int) > d)))))
def Dn (R : Nat → Nat) (F : Nat → Int) (a b c d : Int) : Prop := ∀ q, Ok R q → lex q a b c d → F (cod q) = ((W R q : Nat) : Int)
section
variable {R : Nat → Nat} {F : Nat → Int} {a b c d : Int}
theorem Ok.sm9 {q : Nat → Nat} (hR : sm R) (hq : Ok R q) : sm q := fun j hj => Nat.le_trans (hq.le j hj) (hR j hj)
theorem Dn.start (hR : sm R) : Dn R F ((R 0 : Nat) : Int) 99 99 99 := fun q hq hl => by
  exfalso
  have h0 := hq.le 0 (by omega); have s1 := hq.sm9 hR 1 (by omega); have s2 := hq.sm9 hR 2 (by omega); have s3 := hq.sm9 hR 3 (by omega)
  unfold lex at hl
  omega
theorem Dn.toB (h : Dn R F a 99 99 99) (ha : a ≤ 16) : Dn R F a (if ((R 1 : Nat) : Int) < a then ((R 1 : Nat) : Int) else a) 99 99 := fun q hq hl => h q hq (by
  have h1 := hq.le 1 (by omega); have f0 := hq.fall 0 (by omega); have f1 := hq.fall 1 (by omega); have f2 := hq.fall 2 (by omega)
  simp only [Nat.zero_add, Nat.reduceAdd] at f0 f1 f2
  unfold lex at *
  split at hl <;> omega)
theorem Dn.toC (h : Dn R F a b 99 99) (hb : b ≤ 16) : Dn R F a b (if ((R 2 : Nat) : Int) < b then ((R 2 : Nat) : Int) else b) 99 := fun q hq hl => h q hq (by
  have h1 := hq.le 2 (by omega); have f0 := hq.fall 0 (by omega); have f1 := hq.fall 1 (by omega); have f2 := hq.fall 2 (by omega)
  simp only [Nat.zero_add, Nat.reduceAdd] at f0 f1 f2
  unfold lex at *
  split at hl <;> omega)
theorem Dn.toD (h : Dn R F a b c 99) (hc : c ≤ 16) : Dn R F a b c (if ((R 3 : Nat) : Int) < c then ((R 3 : Nat) : Int) else c) := fun q hq hl => h q hq (by
  have h1 := hq.le 3 (by omega); have f0 := hq.fall 0 (by omega); have f1 := hq.fall 1 (by omega); have f2 := hq.fall 2 (by omega)
  simp only [Nat.zero_add, Nat.reduceAdd] at f0 f1 f2
  unfold lex at *
  split at hl <;> omega)
theorem Dn.endD (hR : sm R) (h : Dn R F a b c (-1)) : Dn R F a b (c - 1) 99 := fun q hq hl => h q hq (by have s1 := hq.sm9 hR 1 (by omega); have s2 := hq.sm9 hR 2 (by omega); have s3 := hq.sm9 hR 3 (by omega); unfold lex at *; omega)
theorem Dn.endC (hR : sm R) (h : Dn R F a b (-1) 99) : Dn R F a (b - 1) 99 99 := fun q hq hl => h q hq (by have s1 := hq.sm9 hR 1 (by omega); have s2 := hq.sm9 hR 2 (by omega); have s3 := hq.sm9 hR 3 (by omega); unfold lex at *; omega)
theorem Dn.endB (hR : sm R) (h : Dn R F a (-1) 99 99) : Dn R F (a - 1) 99 99 99 := fun q hq hl => h q hq (by have s1 := hq.sm9 hR 1 (by omega); have s2 := hq.sm9 hR 2 (by omega); have s3 := hq.sm9 hR 3 (by omega); unfold lex at *; omega)
end
theorem cod_inj {p q : Nat → Nat} (hp : sm p) (hq : sm q) (h : cod p = cod q) : ∀ j, j < 4 → p j = q j := by
  have a0 := hp 0 (by omega); have a1 := hp 1 (by omega); have a2 := hp 2 (by omega); have a3 := hp 3 (by omega)
  have b0 := hq 0 (by omega); have b1 := hq 1 (by omega); have b2 := hq 2 (by omega); have b3 := hq 3 (by omega)
  unfold cod at h
  intro j hj
  have : j = 0 ∨ j = 1 ∨ j = 2 ∨ j = 3 := by omega
  rcases this with e | e | e | e <;> subst e <;> omega
theorem cod_lt {p : Nat → Nat} (hp : sm p) : cod p < 83521 := by
  have a0 := hp 0 (by omega); have a1 := hp 1 (by omega); have a2 := hp 2 (by omega); have a3 := hp 3 (by omega)
  unfold cod
  omega
/-- one more entry -/
theorem Dn.step {R p : Nat → Nat} {F : Nat → Int} (hR : sm R) (hp : Ok R p) (h : Dn R F ((p 0 : Nat) : Int) ((p 1 : Nat) : Int) ((p 2 : Nat) : Int) ((p 3 : Nat) : Int)) :
    Dn R (fun k => if k = cod p then ((W R p : Nat) : Int) else F k) ((p 0 : Nat) : Int) ((p 1 : Nat) : Int) ((p 2 : Nat) : Int) (((p 3 : Nat) : Int) - 1) := fun q hq hl => by
  have hps : sm p := fun j hj => Nat.le_trans (hp.le j hj) (hR j hj)
  have hqs : sm q := fun j hj => Nat.le_trans (hq.le j hj) (hR j hj)
  show (if cod q = cod p then _ else F (cod q)) = _
  by_cases e : cod q = cod p
  · rw [if_pos e, W_congr R q p (cod_inj hqs hps e)]
  · rw [if_neg e]
    refine h q hq ?_
    unfold lex at *
    have : ¬ (q 0 = p 0 ∧ q 1 = p 1 ∧ q 2 = p 2 ∧ q 3 = p 3) := fun hx => e (by unfold cod; rw [hx.1, hx.2.1, hx.2.2.1, hx.2.2.2])
    omega
/-- the entries that one reads -/
theorem Dn.next {R p : Nat → Nat} {F : Nat → Int} (hp : Ok R p) (h : Dn R F ((p 0 : Nat) : Int) ((p 1 : Nat) : Int) ((p 2 : Nat) : Int) ((p 3 : Nat) : Int)) {i : Nat} (hi : i < 4) (hno : ¬ no R p i) : F (cod (up p i)) = ((W R (up p i) : Nat) : Int) := by
  refine h _ (hp.up hi hno) ?_
  unfold lex
  have : i = 0 ∨ i = 1 ∨ i = 2 ∨ i = 3 := by omega
  rcases this with e | e | e | e <;> subst e <;> simp [up] <;> omega
end Go.Proofs.YtmfcknlpbliehaaDoor

/- voTable: the table of ways (under way). -/
namespace Go.Proofs.YtmfcknlpbliehaaDoor
open Go.RowKit
set_option linter.unusedVariables false
theorem C4.lit (a b c d : Nat) (W : World) : C4 (rr a b c d) W.heap.size 0 (W.heap.size + 1) (.slice none 0 0) (W.alloc (.cells #[.int .i64 (a : Int), .int .i64 (b : Int), .int .i64 (c : Int), .int .i64 (d : Int)] 3)) :=
  ⟨by simp, by omega, (by intro e; cases e), (by simp [go_sem]; rfl), (by simp [go_sem]; rfl), (by simp [go_sem]; rfl), (by simp [go_sem]; rfl)⟩
theorem fr_zero9 (n : Nat) : (fr (fun _ => 0) n).map (Value.int .i64) = List.replicate n (.int .i64 0) := by
  unfold fr
  rw [List.map_map]
  refine List.eq_replicate_iff.2 ⟨by simp, fun b hb => ?_⟩
  obtain ⟨k, _, rfl⟩ := List.mem_map.1 hb
  rfl
theorem C4.cell {p : Nat → Nat} {g o P : Nat} {v : Value} {W : World} (h : C4 p g o P v W) {k : Nat} (hk : k < 4) : W.cell? ⟨g, o + k, none⟩ = some (.int .i64 ((p k : Nat) : Int)) := by
  have : k = 0 ∨ k = 1 ∨ k = 2 ∨ k = 3 := by omega
  rcases this with e | e | e | e <;> subst e
  · exact h.c0
  · exact h.c1
  · exact h.c2
  · exact h.c3
theorem pL_at (p : Nat → Nat) {k : Nat} (hk : k < 4) : (pL p).getD k 0 = ((p k : Nat) : Int) := by
  have : k = 0 ∨ k = 1 ∨ k = 2 ∨ k = 3 := by omega
  rcases this with e | e | e | e <;> subst e <;> rfl
/-- the table -/
def VtR (R : Nat → Nat) (w : World) (F : Nat → Int) (wr : World) : Prop := IRow wr w.heap.size (.slice (some ⟨w.heap.size, 0, none⟩) 83521 83521) (fr F 83521) ∧ Below w.heap.size w wr
set_option maxRecDepth 100000 in
set_option maxHeartbeats 4000000 in
theorem voTable_any (R : Nat → Nat) (g2 o2 c2 : Nat) (w : World) (hR : sm R) (hR16 : tot R ≤ 16) (hok : Ok R R) (h2 : C4 R g2 o2 w.heap.size (.slice none 0 0) w) :
    Calls Tryd.prog 15 #[.slice (some ⟨g2, o2, none⟩) 4 c2] w fun e w' => ∃ F, e = .returned (.slice (some ⟨w.heap.size, 0, none⟩) 83521 83521) ∧ IRow w' w.heap.size (.slice (some ⟨w.heap.size, 0, none⟩) 83521 83521) (fr F 83521) ∧ Below w.heap.size w w' ∧ ∀ q, Ok R q → F (cod q) = ((W R q : Nat) : Int) := by
  obtain ⟨i0, hi0, hz0, hz1, hz2⟩ := info_parts intInfo
  have HC2 := Lib.hid h2
  have HSM := Lib.hid hR
  have r0 := hR 0 (by omega)
  have r1 := hR 1 (by omega)
  have r2 := hR 2 (by omega)
  have r3 := hR 3 (by omega)
  have HCE : Hid (∀ W', Below w.heap.size w W' → W'.cell? ⟨g2, o2, none⟩ = some (.int .i64 ((R 0 : Nat) : Int)) ∧ W'.cell? ⟨g2, o2 + 1, none⟩ = some (.int .i64 ((R 1 : Nat) : Int)) ∧ W'.cell? ⟨g2, o2 + 2, none⟩ = some (.int .i64 ((R 2 : Nat) : Int)) ∧ W'.cell? ⟨g2, o2 + 3, none⟩ = some (.int .i64 ((R 3 : Nat) : Int))) := Lib.hid fun W' hb => ⟨(hb.cell (p := ⟨g2, o2, none⟩) h2.lt).trans h2.c0, (hb.cell (p := ⟨g2, o2 + 1, none⟩) h2.lt).trans h2.c1, (hb.cell (p := ⟨g2, o2 + 2, none⟩) h2.lt).trans h2.c2, (hb.cell (p := ⟨g2, o2 + 3, none⟩) h2.lt).trans h2.c3⟩
  clear h2 hR
  go_enter Tryd.func15, Tryd.ntmps15
  go_wp2_with (refine wpList_make_full _ rfl (.tmp 19) (.tmp 19) 33 rfl w.heap.size 3 i0 (.int .i64 0) 1 Tryd.underlying33 hi0 hz0 hz1 .i64 .i64 _ _ 83521 rfl rfl (by omega) (by omega) (by rw [hz2]; omega) (by unfold maxLen; omega) (Nat.le_refl _) ?_; intro w2 hown1 hgrow1; have HB2 : Hid (Below w.heap.size w w2) := Lib.hid ((Below.refl _ _).grown hgrow1 (Nat.le_refl _) (by simp)); have HOW := Lib.hid hown1; clear hown1 hgrow1; have ha0 := (HCE.out _ HB2.out).1)
  have HR0 : Hid (VtR R w (fun _ => 0) w2) := Lib.hid ⟨IRow.of_own HOW.out (by rw [fr_length]) (by rw [madeOne _ rfl]; exact (fr_zero9 _).symm), HB2.out⟩
  clear HOW HB2 ha0
  go_loopw [5] (fun a wr => ∃ (A : Nat) (F : Nat → Int), A ≤ R 0 + 1 ∧ a = .int .i64 ((A : Int) - 1) ∧ VtR R w F wr ∧ Dn R F ((A : Int) - 1) 99 99 99) (fun a _ => (intOf a + 1).toNat)
  case atStart => exact ⟨R 0 + 1, fun _ => 0, Nat.le_refl _, by go_num, HR0.out, by rw [show (((R 0 + 1 : Nat) : Int) - 1) = ((R 0 : Nat) : Int) by omega]; exact Dn.start HSM.out⟩
  case round =>
    obtain ⟨A, F, hA, rfl, hT, hD⟩ := hrel
    clear HR0
    cases A with
    | zero =>
      have HT := Lib.hid hT
      have HD := Lib.hid hD
      clear hT hD
      go_wp2
      go_ret
      exact ⟨F, rfl, HT.out.1, HT.out.2, fun q hq => HD.out q hq (.inl (by have : (0 : Int) ≤ ((q 0 : Nat) : Int) := Int.natCast_nonneg _; simp; omega))⟩
    | succ m =>
      have HT := Lib.hid hT
      rw [show (((m + 1 : Nat) : Int) - 1) = (m : Int) by omega] at hD
      have HD := Lib.hid hD
      obtain ⟨B0, hB0, hB1, hBm⟩ : ∃ B0 : Nat, (if ((R 1 : Nat) : Int) < (m : Int) then ((R 1 : Nat) : Int) else (m : Int)) = (B0 : Int) ∧ B0 ≤ R 1 ∧ B0 ≤ m := by
        by_cases hx : R 1 < m
        · exact ⟨R 1, by rw [if_pos (by omega)], Nat.le_refl _, by omega⟩
        · exact ⟨m, by rw [if_neg (by omega)], by omega, Nat.le_refl _⟩
      have hD1 := hD.toB (by omega)
      rw [hB0] at hD1
      have HD1 := Lib.hid hD1
      have HLE : Hid (∀ w, Calls Tryd.prog 30 #[.int .i64 (m : Int), .int .i64 ((R 1 : Nat) : Int)] w fun e w' => e = .returned (.int .i64 (B0 : Int)) ∧ w = w') := Lib.hid fun w => by rw [← hB0]; exact least_any _ _ w
      have hc1 := (HCE.out _ hT.2).2.1
      clear hT hD hD1 hB0
      go_wp2_with (first | (go_at_call 30; refine (HLE.out _).mono ?_; rintro e w' ⟨rfl, rfl⟩))
      go_loopw [6] (fun a wr => ∃ (A : Nat) (F : Nat → Int), A ≤ B0 + 1 ∧ a = .int .i64 ((A : Int) - 1) ∧ VtR R w F wr ∧ Dn R F (m : Int) ((A : Int) - 1) 99 99) (fun a _ => (intOf a + 1).toNat)
      case atStart => exact ⟨B0 + 1, F, Nat.le_refl _, by go_num, HT.out, by rw [show (((B0 + 1 : Nat) : Int) - 1) = ((B0 : Nat) : Int) by omega]; exact HD1.out⟩
      case round =>
        obtain ⟨A, F, hA, rfl, hT, hD⟩ := hrel
        clear HT HD1 HD
        cases A with
        | zero =>
          have HT := Lib.hid hT
          have HD := Lib.hid (Dn.endB HSM.out (show Dn R F (m : Int) (-1) 99 99 from hD))
          clear hT hD
          go_wp2
          go_roundw
          case rel => exact ⟨m, F, by omega, by go_num, HT.out, HD.out⟩
          first | (simp [intOf]; done) | (simp [intOf]; omega)
        | succ m1 =>
          have HT := Lib.hid hT
          rw [show (((m1 + 1 : Nat) : Int) - 1) = (m1 : Int) by omega] at hD
          have HD := Lib.hid hD
          obtain ⟨B1, hB0, hB1R, hB1m⟩ : ∃ B0 : Nat, (if ((R 2 : Nat) : Int) < (m1 : Int) then ((R 2 : Nat) : Int) else (m1 : Int)) = (B0 : Int) ∧ B0 ≤ R 2 ∧ B0 ≤ m1 := by
            by_cases hx : R 2 < m1
            · exact ⟨R 2, by rw [if_pos (by omega)], Nat.le_refl _, by omega⟩
            · exact ⟨m1, by rw [if_neg (by omega)], by omega, Nat.le_refl _⟩
          have hD1 := hD.toC (by omega)
          rw [hB0] at hD1
          have HD1 := Lib.hid hD1
          have HLE : Hid (∀ w, Calls Tryd.prog 30 #[.int .i64 (m1 : Int), .int .i64 ((R 2 : Nat) : Int)] w fun e w' => e = .returned (.int .i64 (B1 : Int)) ∧ w = w') := Lib.hid fun w => by rw [← hB0]; exact least_any _ _ w
          have hc2 := (HCE.out _ hT.2).2.2.1
          clear hT hD hD1 hB0
          go_wp2_with (first | (go_at_call 30; refine (HLE.out _).mono ?_; rintro e w' ⟨rfl, rfl⟩))
          go_loopw [7] (fun a wr => ∃ (A : Nat) (F : Nat → Int), A ≤ B1 + 1 ∧ a = .int .i64 ((A : Int) - 1) ∧ VtR R w F wr ∧ Dn R F (m : Int) (m1 : Int) ((A : Int) - 1) 99) (fun a _ => (intOf a + 1).toNat)
          case atStart => exact ⟨B1 + 1, F, Nat.le_refl _, by go_num, HT.out, by rw [show (((B1 + 1 : Nat) : Int) - 1) = ((B1 : Nat) : Int) by omega]; exact HD1.out⟩
          case round =>
            obtain ⟨A, F, hA, rfl, hT, hD⟩ := hrel
            clear HT HD1 HD
            cases A with
            | zero =>
              have HT := Lib.hid hT
              have HD := Lib.hid (Dn.endC HSM.out (show Dn R F (m : Int) (m1 : Int) (-1) 99 from hD))
              clear hT hD
              go_wp2
              go_roundw
              case rel => exact ⟨m1, F, by omega, by go_num, HT.out, HD.out⟩
              first | (simp [intOf]; done) | (simp [intOf]; omega)
            | succ m2 =>
              have HT := Lib.hid hT
              rw [show (((m2 + 1 : Nat) : Int) - 1) = (m2 : Int) by omega] at hD
              have HD := Lib.hid hD
              obtain ⟨B2, hB0, hB2R, hB2m⟩ : ∃ B0 : Nat, (if ((R 3 : Nat) : Int) < (m2 : Int) then ((R 3 : Nat) : Int) else (m2 : Int)) = (B0 : Int) ∧ B0 ≤ R 3 ∧ B0 ≤ m2 := by
                by_cases hx : R 3 < m2
                · exact ⟨R 3, by rw [if_pos (by omega)], Nat.le_refl _, by omega⟩
                · exact ⟨m2, by rw [if_neg (by omega)], by omega, Nat.le_refl _⟩
              have hD1 := hD.toD (by omega)
              rw [hB0] at hD1
              have HD1 := Lib.hid hD1
              have HLE : Hid (∀ w, Calls Tryd.prog 30 #[.int .i64 (m2 : Int), .int .i64 ((R 3 : Nat) : Int)] w fun e w' => e = .returned (.int .i64 (B2 : Int)) ∧ w = w') := Lib.hid fun w => by rw [← hB0]; exact least_any _ _ w
              have hc3 := (HCE.out _ hT.2).2.2.2
              clear hT hD hD1 hB0
              go_wp2_with (first | (go_at_call 30; refine (HLE.out _).mono ?_; rintro e w' ⟨rfl, rfl⟩))
              go_loopw [8] (fun a wr => ∃ (A : Nat) (F : Nat → Int), A ≤ B2 + 1 ∧ a = .int .i64 ((A : Int) - 1) ∧ VtR R w F wr ∧ Dn R F (m : Int) (m1 : Int) (m2 : Int) ((A : Int) - 1)) (fun a _ => (intOf a + 1).toNat)
              case atStart => exact ⟨B2 + 1, F, Nat.le_refl _, by go_num, HT.out, by rw [show (((B2 + 1 : Nat) : Int) - 1) = ((B2 : Nat) : Int) by omega]; exact HD1.out⟩
              case round =>
                obtain ⟨A, F, hA, rfl, hT, hD⟩ := hrel
                clear HT HD1 HD
                cases A with
                | zero =>
                  have HT := Lib.hid hT
                  have HD := Lib.hid (Dn.endD HSM.out (show Dn R F (m : Int) (m1 : Int) (m2 : Int) (-1) from hD))
                  clear hT hD
                  go_wp2
                  go_roundw
                  case rel => exact ⟨m2, F, by omega, by go_num, HT.out, HD.out⟩
                  first | (simp [intOf]; done) | (simp [intOf]; omega)
                | succ m3 =>
                  have HT := Lib.hid hT
                  rw [show (((m3 + 1 : Nat) : Int) - 1) = (m3 : Int) by omega] at hD
                  have HD := Lib.hid hD
                  obtain ⟨P, hP⟩ : ∃ P : Nat → Nat, rr m m1 m2 m3 = P := ⟨_, rfl⟩
                  have e0 : P 0 = m := by rw [← hP]; rfl
                  have e1 : P 1 = m1 := by rw [← hP]; rfl
                  have e2 : P 2 = m2 := by rw [← hP]; rfl
                  have e3 : P 3 = m3 := by rw [← hP]; rfl
                  have hokP : Ok R P := ⟨fun i hi => by
                    have : i = 0 ∨ i = 1 ∨ i = 2 ∨ i = 3 := by omega
                    rcases this with e | e | e | e <;> subst e <;> omega, fun i hi => by
                    have : i = 0 ∨ i = 1 ∨ i = 2 := by omega
                    rcases this with e | e | e <;> subst e <;> simp only [Nat.zero_add, Nat.reduceAdd] <;> omega⟩
                  have HOKP := Lib.hid hokP
                  have HPS : Hid (sm P) := Lib.hid (hokP.sm9 HSM.out)
                  have HLT : Hid (cod P < 83521) := Lib.hid (cod_lt HPS.out)
                  have hlit := fun W => C4.lit m m1 m2 m3 W
                  rw [hP] at hlit
                  have HLIT := Lib.hid hlit
                  have HDP : Hid (Dn R F ((P 0 : Nat) : Int) ((P 1 : Nat) : Int) ((P 2 : Nat) : Int) ((P 3 : Nat) : Int)) := Lib.hid (by rw [e0, e1, e2, e3]; exact HD.out)
                  have HDN : Hid (Dn R (fun k => if k = cod P then ((W R P : Nat) : Int) else F k) (m : Int) (m1 : Int) (m2 : Int) ((m3 : Int) - 1)) := Lib.hid (by have := Dn.step HSM.out hokP HDP.out; rwa [e0, e1, e2, e3] at this)
                  have HSET : Hid ((fr F 83521).set (cod P) ((W R P : Nat) : Int) = fr (fun k => if k = cod P then ((W R P : Nat) : Int) else F k) 83521) := Lib.hid (fr_set1 F _ 83521 (cod P) _ (by rw [if_pos rfl]) (fun j _ hne => by rw [if_neg hne]))
                  have HWB : Hid (W R P ≤ 4294967296) := Lib.hid (W_bd hR16)
                  clear hlit hP hokP HD e0 e1 e2 e3
                  have HRES : Hid (∀ W', Below w.heap.size w W' → C4 R g2 o2 w.heap.size (.slice none 0 0) W') := Lib.hid fun W' hb => HC2.out.next (St9.below hb)
                  by_cases hs : same R P
                  · have HW1 : Hid (W R P = 1) := Lib.hid (W_end hs)
                    have HSA : Hid (∀ W' g c, C4 P g 0 (g + 1) (.slice none 0 0) W' → Below w.heap.size w W' → Calls Tryd.prog 31 #[.slice (some ⟨g, 0, none⟩) 4 c, .slice (some ⟨g2, o2, none⟩) 4 c2] W' fun e w' => e = .returned (.bool true) ∧ Below W'.heap.size W' w') := Lib.hid fun W' g c h1 hb => by have := voSame_any P R g 0 c g2 o2 c2 _ _ _ _ W' h1 (HRES.out W' hb); rwa [show decide (same R P) = true from decide_eq_true hs] at this
                    have HLI := Lib.hid (HLIT.out wr)
                    have HBA := Lib.hid (HT.out.2.alloc HT.out.2.size (.cells #[.int .i64 (m : Int), .int .i64 (m1 : Int), .int .i64 (m2 : Int), .int .i64 (m3 : Int)] 3))
                    have HRA : Hid (IRow (wr.alloc (.cells #[.int .i64 (m : Int), .int .i64 (m1 : Int), .int .i64 (m2 : Int), .int .i64 (m3 : Int)] 3)) w.heap.size (.slice (some ⟨w.heap.size, 0, none⟩) 83521 83521) (fr F 83521)) := Lib.hid (HT.out.1.alloc _)
                    clear hs HLIT
                    go_wp2_with (first
                      | (go_at_call 31; refine (HSA.out _ _ _ HLI.out HBA.out).mono ?_; rintro e w3 ⟨rfl, hb3⟩
                         have HL3 := Lib.hid (HLI.out.next (St9.below hb3))
                         have HR3 := Lib.hid (HRA.out.below hb3)
                         have HB3 := Lib.hid (HBA.out.trans (hb3.mono HBA.out.size))
                         clear hb3)
                      | (go_at_call 17; refine (voCode_any P _ _ _ _ _ _ HPS.out HL3.out).mono ?_; rintro e w4 ⟨rfl, hb4⟩
                         have hr4 := HR3.out.below hb4
                         have hc := hr4.cell (j := cod P) (by rw [fr_length]; exact HLT.out)
                         have hf := hr4.free (cod P)
                         have hst := (hr4.set (cod P) ((W R P : Nat) : Int)).1
                         rw [HSET.out, HW1.out] at hst
                         have HST := Lib.hid hst
                         have HBS := Lib.hid ((HB3.out.trans (hb4.mono HB3.out.size)).setCell (p := ⟨w.heap.size, cod P, none⟩) (Nat.le_refl _) (.int .i64 ((1 : Nat) : Int)))
                         have hlt := HLT.out
                         clear hst hr4 hb4))
                    go_roundw
                    case rel => exact ⟨m3, _, by omega, by go_num, ⟨HST.out, HBS.out⟩, (by have := HDN.out; rw [HW1.out] at this; exact this)⟩
                    first | (simp [intOf]; done) | (simp [intOf]; omega)
                  · have HW4 : Hid (W R P = byS R P 4) := Lib.hid (W_eq HOKP.out hs)
                    have HSB : Hid (∀ k, k ≤ 4 → byS R P k ≤ 17179869184) := Lib.hid fun k hk => Nat.le_trans (byS_bd hR16 k) (by omega)
                    have HSA : Hid (∀ W' g c, C4 P g 0 (g + 1) (.slice none 0 0) W' → Below w.heap.size w W' → Calls Tryd.prog 31 #[.slice (some ⟨g, 0, none⟩) 4 c, .slice (some ⟨g2, o2, none⟩) 4 c2] W' fun e w' => e = .returned (.bool false) ∧ Below W'.heap.size W' w') := Lib.hid fun W' g c h1 hb => by have := voSame_any P R g 0 c g2 o2 c2 _ _ _ _ W' h1 (HRES.out W' hb); rwa [show decide (same R P) = false from decide_eq_false hs] at this
                    have HLI := Lib.hid (HLIT.out wr)
                    have HBA := Lib.hid (HT.out.2.alloc HT.out.2.size (.cells #[.int .i64 (m : Int), .int .i64 (m1 : Int), .int .i64 (m2 : Int), .int .i64 (m3 : Int)] 3))
                    have HRA : Hid (IRow (wr.alloc (.cells #[.int .i64 (m : Int), .int .i64 (m1 : Int), .int .i64 (m2 : Int), .int .i64 (m3 : Int)] 3)) w.heap.size (.slice (some ⟨w.heap.size, 0, none⟩) 83521 83521) (fr F 83521)) := Lib.hid (HT.out.1.alloc _)
                    have HNX : Hid (∀ i, i < 4 → ¬ no R P i → F (cod (up P i)) = ((W R (up P i) : Nat) : Int)) := Lib.hid fun i hi hno => Dn.next HOKP.out HDP.out hi hno
                    clear hs HLIT
                    go_wp2_with (first
                      | (go_at_call 31; refine (HSA.out _ _ _ HLI.out HBA.out).mono ?_; rintro e w3 ⟨rfl, hb3⟩
                         have HL3 := Lib.hid (HLI.out.next (St9.below hb3))
                         have HR3 := Lib.hid (HRA.out.below hb3)
                         have HB3 := Lib.hid (HBA.out.trans (hb3.mono HBA.out.size))
                         clear hb3))
                    obtain ⟨gc, hgc⟩ : ∃ gc, wr.heap.size = gc := ⟨_, rfl⟩
                    rw [hgc] at HL3 ⊢
                    clear HLI HBA HRA HSA
                    go_loopw [10, 69] (fun n i wq => ∃ k : Nat, k ≤ 4 ∧ i = .int .i64 (k : Int) ∧ n = .int .i64 ((byS R P k : Nat) : Int) ∧ Below w3.heap.size w3 wq) (fun _ i _ => 4 - (intOf i).toNat)
                    case atStart => exact ⟨0, Nat.zero_le _, rfl, rfl, Below.refl _ _⟩
                    case round =>
                      obtain ⟨k, hk, rfl, rfl, hbq⟩ := hrel
                      have HCQ := Lib.hid (HL3.out.next (St9.below hbq))
                      have HRQ := Lib.hid (HR3.out.below hbq)
                      have HBQ := Lib.hid (HB3.out.trans (hbq.mono HB3.out.size))
                      have HRS := Lib.hid (HRES.out _ HBQ.out)
                      have HBK := Lib.hid hbq
                      clear hbq
                      by_cases hlt : k < 4
                      · have a0 := HCQ.out.cell hlt
                        have b0 := HRS.out.cell hlt
                        rw [Nat.zero_add] at a0
                        by_cases hk0 : k = 0
                        · subst hk0
                          rw [Nat.add_zero] at b0
                          by_cases hA : P 0 = R 0
                          · have HBY : Hid (byS R P (0 + 1) = byS R P 0) := Lib.hid (by show byS R P 0 + byW R P 0 = _; rw [byW_no (.inl hA), Nat.add_zero])
                            have q1 : decide (P 0 < R 0) = false := decide_eq_false (by omega)
                            clear hA
                            go_wp2_with fail
                            go_quiet (fail)
                            go_wp2
                            go_roundw
                            case rel => exact ⟨0 + 1, by omega, by go_num, by rw [HBY.out], by first | exact HBK.out | exact below_drewN HBK.out _⟩
                            first | (simp [intOf]; done) | (simp [intOf]; omega)
                          · have hle := HOKP.out.le 0 (by omega)
                            have hno : ¬ no R P 0 := fun hx => hx.elim hA (fun hy => absurd hy.1 (by omega))
                            have HPK := HPS.out 0 (by omega)
                            have HBY : Hid (byS R P (0 + 1) = byS R P 0 + W R (up P 0)) := Lib.hid (by show byS R P 0 + byW R P 0 = _; rw [byW_go hno])
                            have HB5 := HSB.out (0 + 1) (by omega)
                            rw [HBY.out] at HB5
                            have HFV := Lib.hid (HNX.out 0 (by omega) hno)
                            have HUP : Hid ((pL P).set 0 (((P 0 : Nat) : Int) + 1) = pL (up P 0)) := Lib.hid (pL_up P (by omega))
                            have hku := (HOKP.out.up (by omega) hno).sm9 HSM.out
                            have HUS := Lib.hid hku
                            have HUL : Hid (cod (up P 0) < 83521) := Lib.hid (cod_lt hku)
                            have HPA : Hid ((pL P).getD 0 0 = ((P 0 : Nat) : Int)) := Lib.hid (pL_at P (by omega))
                            have HPL : Hid (0 < (pL P).length) := Lib.hid (by simp [pL]; try omega)
                            have q1 : P 0 < R 0 := by omega
                            clear hku hA hno hle
                            generalize byS R P 0 = S0 at *
                            generalize W R (up P 0) = W0 at *
                            go_wp2_with fail
                            go_quiet (fail)
                            go_wp2_with (first
                              | (go_at_call 16; refine ((HCQ.out.drewN _).own _).mono ?_; rintro e w5 ⟨v5, rfl, hr5, hb5⟩
                                 obtain ⟨g5, c5, rfl, hg5, hg6⟩ := hr5.form' (n := 4) rfl (by omega)
                                 have hc : w5.cell? ⟨g5, 0, none⟩ = some (.int .i64 ((P 0 : Nat) : Int)) := (hr5.cell HPL.out).trans (by rw [HPA.out])
                                 have hf := hr5.free 0
                                 have hst := (hr5.set 0 (((P 0 : Nat) : Int) + 1)).1
                                 rw [HUP.out] at hst
                                 have HC5 : Hid (C4 (up P 0) g5 0 (g5 + 1) (.slice none 0 0) (w5.setCell ⟨g5, 0, none⟩ (.int .i64 (((P 0 : Nat) : Int) + 1)))) := Lib.hid (C4.of_row hst (by simp [World.setCell]; exact hg6) (by omega) (by intro e; cases e))
                                 have HB5 := Lib.hid (hb5.setCell (p := ⟨g5, 0, none⟩) hg5 (.int .i64 (((P 0 : Nat) : Int) + 1)))
                                 clear hst hr5 hb5)
                              | (go_at_call 17; refine (voCode_any (up P 0) _ _ _ _ _ _ HUS.out HC5.out).mono ?_; rintro e w6 ⟨rfl, hb6⟩
                                 have HB6 := Lib.hid (HB5.out.trans (hb6.mono HB5.out.size))
                                 have hc9 := ((HRQ.out.drewN _).below HB6.out).cell (j := cod (up P 0)) (by rw [fr_length]; exact HUL.out)
                                 rw [fr_get _ _ _ HUL.out, HFV.out] at hc9
                                 have hul := HUL.out
                                 clear hb6))
                            go_roundw
                            case rel => exact ⟨0 + 1, by omega, by go_num, by rw [HBY.out]; go_num, (below_drewN HBK.out _).trans (HB6.out.mono HBK.out.size)⟩
                            first | (simp [intOf]; done) | (simp [intOf]; omega)
                        · obtain ⟨j, hj⟩ : ∃ j, k = j + 1 := ⟨k - 1, by omega⟩
                          have hj1 : k - 1 = j := by omega
                          by_cases hA : P k = R k
                          · have HBY : Hid (byS R P (k + 1) = byS R P k) := Lib.hid (by show byS R P k + byW R P k = _; rw [byW_no (.inl hA), Nat.add_zero])
                            have q1 : decide (P k < R k) = false := decide_eq_false (by omega)
                            clear hA hj hj1
                            go_wp2_with fail
                            go_quiet (fail)
                            go_wp2
                            go_roundw
                            case rel => exact ⟨k + 1, by omega, by go_num, by rw [HBY.out], by first | exact HBK.out | exact below_drewN HBK.out _⟩
                            first | (simp [intOf]; done) | (simp [intOf]; omega)
                          · have hle := HOKP.out.le k (by omega)
                            have a1 := HCQ.out.cell (show j < 4 by omega)
                            rw [Nat.zero_add] at a1
                            by_cases hB : P k = P j
                            · have HBY : Hid (byS R P (k + 1) = byS R P k) := Lib.hid (by show byS R P k + byW R P k = _; rw [byW_no (.inr ⟨by omega, by rw [hj1]; exact hB⟩), Nat.add_zero])
                              have i0 : (((k : Nat) : Int) == 0) = false := by simp; omega
                              have q1 : P k < R k := by omega
                              have q3 : decide (P k < P j) = false := decide_eq_false (by omega)
                              have i2 : (j : Int) < 4 := by omega
                              have i1 : IntKind.i64.wrap (((k : Nat) : Int) - 1) = (j : Int) := by rw [IntWalk.i64_in _ (by omega)]; omega
                              clear hA hB hle hj hj1
                              go_wp2_with fail
                              go_quiet (fail)
                              clear i1
                              go_wp2
                              go_roundw
                              case rel => exact ⟨k + 1, by omega, by go_num, by rw [HBY.out], by first | exact HBK.out | exact below_drewN HBK.out _⟩
                              first | (simp [intOf]; done) | (simp [intOf]; omega)
                            · have hfl := HOKP.out.fall j (by omega)
                              rw [← hj] at hfl
                              have hno : ¬ no R P k := fun hx => hx.elim hA (fun hy => hB (by rw [← hj1]; exact hy.2))
                              have HPK := HPS.out k (by omega)
                              have HBY : Hid (byS R P (k + 1) = byS R P k + W R (up P k)) := Lib.hid (by show byS R P k + byW R P k = _; rw [byW_go hno])
                              have HB5 := HSB.out (k + 1) (by omega)
                              rw [HBY.out] at HB5
                              have HFV := Lib.hid (HNX.out k (by omega) hno)
                              have HUP : Hid ((pL P).set k (((P k : Nat) : Int) + 1) = pL (up P k)) := Lib.hid (pL_up P (by omega))
                              have hku := (HOKP.out.up (by omega) hno).sm9 HSM.out
                              have HUS := Lib.hid hku
                              have HUL : Hid (cod (up P k) < 83521) := Lib.hid (cod_lt hku)
                              have HPA : Hid ((pL P).getD k 0 = ((P k : Nat) : Int)) := Lib.hid (pL_at P (by omega))
                              have HPL : Hid (k < (pL P).length) := Lib.hid (by simp [pL]; try omega)
                              have i0 : (((k : Nat) : Int) == 0) = false := by simp; omega
                              have q1 : P k < R k := by omega
                              have q2 : P k < P j := by omega
                              have i2 : (j : Int) < 4 := by omega
                              have i1 : IntKind.i64.wrap (((k : Nat) : Int) - 1) = (j : Int) := by rw [IntWalk.i64_in _ (by omega)]; omega
                              clear hku hA hno hle hB hfl hj hj1
                              generalize byS R P k = S0 at *
                              generalize W R (up P k) = W0 at *
                              go_wp2_with fail
                              go_quiet (fail)
                              clear i1
                              go_wp2_with (first
                                | (go_at_call 16; refine ((HCQ.out.drewN _).own _).mono ?_; rintro e w5 ⟨v5, rfl, hr5, hb5⟩
                                   obtain ⟨g5, c5, rfl, hg5, hg6⟩ := hr5.form' (n := 4) rfl (by omega)
                                   have hc : w5.cell? ⟨g5, k, none⟩ = some (.int .i64 ((P k : Nat) : Int)) := (hr5.cell HPL.out).trans (by rw [HPA.out])
                                   have hf := hr5.free k
                                   have hst := (hr5.set k (((P k : Nat) : Int) + 1)).1
                                   rw [HUP.out] at hst
                                   have HC5 : Hid (C4 (up P k) g5 0 (g5 + 1) (.slice none 0 0) (w5.setCell ⟨g5, k, none⟩ (.int .i64 (((P k : Nat) : Int) + 1)))) := Lib.hid (C4.of_row hst (by simp [World.setCell]; exact hg6) (by omega) (by intro e; cases e))
                                   have HB5 := Lib.hid (hb5.setCell (p := ⟨g5, k, none⟩) hg5 (.int .i64 (((P k : Nat) : Int) + 1)))
                                   clear hst hr5 hb5)
                                | (go_at_call 17; refine (voCode_any (up P k) _ _ _ _ _ _ HUS.out HC5.out).mono ?_; rintro e w6 ⟨rfl, hb6⟩
                                   have HB6 := Lib.hid (HB5.out.trans (hb6.mono HB5.out.size))
                                   have hc9 := ((HRQ.out.drewN _).below HB6.out).cell (j := cod (up P k)) (by rw [fr_length]; exact HUL.out)
                                   rw [fr_get _ _ _ HUL.out, HFV.out] at hc9
                                   have hul := HUL.out
                                   clear hb6))
                              go_roundw
                              case rel => exact ⟨k + 1, by omega, by go_num, by rw [HBY.out]; go_num, (below_drewN HBK.out _).trans (HB6.out.mono HBK.out.size)⟩
                              first | (simp [intOf]; done) | (simp [intOf]; omega)
                      · obtain rfl : k = 4 := by omega
                        rw [← HW4.out]
                        have hwb := HWB.out
                        clear HW4 HSB
                        go_wp2_with (first
                          | (go_at_call 17; refine (voCode_any P _ _ _ _ _ _ HPS.out HCQ.out).mono ?_; rintro e w4 ⟨rfl, hb4⟩
                             have hr4 := HRQ.out.below hb4
                             have hc := hr4.cell (j := cod P) (by rw [fr_length]; exact HLT.out)
                             have hf := hr4.free (cod P)
                             have hst := (hr4.set (cod P) ((W R P : Nat) : Int)).1
                             rw [HSET.out] at hst
                             have HST := Lib.hid hst
                             have HBS := Lib.hid ((HBQ.out.trans (hb4.mono HBQ.out.size)).setCell (p := ⟨w.heap.size, cod P, none⟩) (Nat.le_refl _) (.int .i64 ((W R P : Nat) : Int)))
                             have hlt9 := HLT.out
                             clear hst hr4 hb4))
                        go_roundw
                        case rel => exact ⟨m3, _, by omega, by go_num, ⟨HST.out, HBS.out⟩, HDN.out⟩
                        first | (simp [intOf]; done) | (simp [intOf]; omega)
end Go.Proofs.YtmfcknlpbliehaaDoor
