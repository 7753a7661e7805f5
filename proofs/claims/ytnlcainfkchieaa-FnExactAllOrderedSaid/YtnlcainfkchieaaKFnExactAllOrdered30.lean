/- Pack 30 of what FnExactAllOrdered needs: LokS, VorI. -/
import Derived.Test.YtnlcainfkchieaaKFnExactAllOrdered29
/- voLook: all votes on. -/
namespace Go.Proofs.Ytnlcainfkchieaa
open Go.RowKit
set_option linter.unusedVariables false
def dnV (R p : Nat → Nat) : Nat → Bool
  | 0 => true
  | k + 1 => dnV R p k && decide (p k = R k)
theorem dnV_4 (R p : Nat → Nat) : dnV R p 4 = decide (same R p) := by
  show ((((true && decide (p 0 = R 0)) && decide (p 1 = R 1)) && decide (p 2 = R 2)) && decide (p 3 = R 3)) = _
  rw [Bool.true_and, Bool.eq_iff_iff]
  by_cases h : same R p
  · rw [decide_eq_true h]
    obtain ⟨h0, h1, h2, h3⟩ := h
    simp [h0, h1, h2, h3]
  · rw [decide_eq_false h]
    simp only [Bool.and_eq_true, decide_eq_true_iff]
    exact ⟨fun hx => absurd ⟨hx.1.1.1, hx.1.1.2, hx.1.2, hx.2⟩ h, fun hx => by cases hx⟩
/-- four numbers at g -/
structure C4 (p : Nat → Nat) (g o : Nat) (P : Nat) (v : Value) (W : World) : Prop where
  lt : g < W.heap.size
  ne : g ≠ P
  ow : some g ≠ v.ownBlock
  c0 : W.cell? ⟨g, o, none⟩ = some (.int .i64 ((p 0 : Nat) : Int))
  c1 : W.cell? ⟨g, o + 1, none⟩ = some (.int .i64 ((p 1 : Nat) : Int))
  c2 : W.cell? ⟨g, o + 2, none⟩ = some (.int .i64 ((p 2 : Nat) : Int))
  c3 : W.cell? ⟨g, o + 3, none⟩ = some (.int .i64 ((p 3 : Nat) : Int))
theorem C4.next {p : Nat → Nat} {g o P : Nat} {v v1 : Value} {W W1 : World} (h : C4 p g o P v W) (s : St9 P v W v1 W1) : C4 p g o P v1 W1 :=
  ⟨Nat.lt_of_lt_of_le h.lt s.size, h.ne, s.apart h.lt h.ow, (s.cell h.lt h.ne h.ow _).trans h.c0, (s.cell h.lt h.ne h.ow _).trans h.c1, (s.cell h.lt h.ne h.ow _).trans h.c2, (s.cell h.lt h.ne h.ow _).trans h.c3⟩
theorem St9.drewN {P : Nat} {v v1 : Value} {W W1 : World} (h : St9 P v W v1 W1) (n : Nat) : St9 P v W v1 (W1.drewN n) := h.trans (St9.below (below_drewN (Below.refl _ _) n))
theorem C4.drewN {p : Nat → Nat} {g o P : Nat} {v : Value} {W : World} (h : C4 p g o P v W) (n : Nat) : C4 p g o P v (W.drewN n) := h.next (St9.below (below_drewN (Below.refl _ _) n))
def pL (p : Nat → Nat) : List Int := [((p 0 : Nat) : Int), ((p 1 : Nat) : Int), ((p 2 : Nat) : Int), ((p 3 : Nat) : Int)]
def LkRet (P : Nat) (v : Value) (xs : List ByteArray) (W : World) (e : Ending) (W' : World) : Prop := e = .returned (.tuple #[]) ∧ ∃ v', LK P v' xs W' ∧ St9 P v W v' W'
theorem C4.own {p : Nat → Nat} {g P : Nat} {v : Value} {W : World} (h : C4 p g 0 P v W) (c : Nat) : Calls Try.prog 57 #[.slice (some ⟨g, 0, none⟩) 4 c] W (IntsNew W (pL p)) :=
  l1Own_any g 0 c (pL p) W h.lt (fun j hj => by
    have hj4 : j < 4 := hj
    have hjj : j = 0 ∨ j = 1 ∨ j = 2 ∨ j = 3 := by omega
    rcases hjj with e | e | e | e <;> subst e
    · exact h.c0
    · exact h.c1
    · exact h.c2
    · exact h.c3) (by simp [pL])
theorem C4.of_row {p : Nat → Nat} {g c P B : Nat} {v : Value} {W : World} (h : IRow W B (.slice (some ⟨g, 0, none⟩) 4 c) (pL p)) (hg : g < W.heap.size) (hne : g ≠ P) (ho : some g ≠ v.ownBlock) : C4 p g 0 P v W :=
  ⟨hg, hne, ho, h.cell (j := 0) (by simp [pL]), h.cell (j := 1) (by simp [pL]), h.cell (j := 2) (by simp [pL]), h.cell (j := 3) (by simp [pL])⟩
theorem pL_up (p : Nat → Nat) {i : Nat} (hi : i < 4) : (pL p).set i (((p i : Nat) : Int) + 1) = pL (up p i) := by
  have hjj : i = 0 ∨ i = 1 ∨ i = 2 ∨ i = 3 := by omega
  rcases hjj with e | e | e | e <;> subst e <;> simp [pL, up]
set_option maxRecDepth 100000 in
set_option maxHeartbeats 4000000 in
theorem voLook_step (R p : Nat → Nat) (P g1 c1 g2 o2 c2 n : Nat) (s : ByteArray) (v : Value) (xs : List ByteArray) (W : World) (hR : sm R) (hR16 : tot R ≤ 16) (hok : Ok R p) (ht : tot p + n = tot R) (hs : s.size + n ≤ 16) (hx : xs.length + Go.Proofs.Ytnlcainfkchieaa.W R p ≤ 300) (hLK : LK P v xs W) (h1 : C4 p g1 0 P v W) (h2 : C4 R g2 o2 P v W) (hcc : 4 ≤ c1 ∧ c1 ≤ maxLen) (hcc2 : 4 ≤ c2 ∧ c2 ≤ maxLen)
    (IH : ∀ i, i < 4 → ¬ no R p i → ∀ (v : Value) (xs : List ByteArray) (g c : Nat) (W : World), xs.length + Go.Proofs.Ytnlcainfkchieaa.W R (up p i) ≤ 300 → LK P v xs W → C4 (up p i) g 0 P v W → C4 R g2 o2 P v W → 4 ≤ c ∧ c ≤ maxLen →
      Calls Try.prog 50 #[.string (s ++ abcd1 i), .slice (some ⟨g, 0, none⟩) 4 c, .slice (some ⟨g2, o2, none⟩) 4 c2, .pointer (some ⟨P, 0, none⟩)] W (LkRet P v (xs ++ behind (s ++ abcd1 i) ((ll R (n - 1) (up p i)).map lett)) W)) :
    Calls Try.prog 50 #[.string s, .slice (some ⟨g1, 0, none⟩) 4 c1, .slice (some ⟨g2, o2, none⟩) 4 c2, .pointer (some ⟨P, 0, none⟩)] W (LkRet P v (xs ++ behind s ((ll R n p).map lett)) W) := by
  have HOK := Lib.hid hok
  have hcc1 := hcc.1
  have hcc3 := hcc2.1
  have HL0 : Hid (xs ++ prt R p s (n - 1) 0 = xs) := Lib.hid (List.append_nil _)
  have HST0 : Hid (LK P v xs W ∧ C4 p g1 0 P v W ∧ C4 R g2 o2 P v W) := Lib.hid ⟨hLK, h1, h2⟩
  have HLEN : Hid (∀ k, k ≤ 4 → (prt R p s (n - 1) k).length ≤ 300 ∧ (k < 4 → ¬ no R p k → (xs ++ prt R p s (n - 1) k).length + Go.Proofs.Ytnlcainfkchieaa.W R (up p k) ≤ 300)) := Lib.hid (by
    intro k hk
    by_cases hsm : same R p
    · rw [prt_same s _ hsm k hk]
      refine ⟨by simp, fun hk4 hno => ?_⟩
      exfalso
      apply hno
      obtain ⟨h0, h1, h2, h3⟩ := hsm
      have : k = 0 ∨ k = 1 ∨ k = 2 ∨ k = 3 := by omega
      rcases this with e | e | e | e <;> subst e
      · exact .inl h0
      · exact .inl h1
      · exact .inl h2
      · exact .inl h3
    · have hne : ¬ tot p = tot R := fun e => hsm (hok.same_iff.2 e)
      have hl := prt_len (R := R) (p := p) s (m := n - 1) hok (by omega) k hk
      have hW := W_eq hok hsm
      have hm := byS_mono R p k (4 - k)
      rw [show k + (4 - k) = 4 by omega] at hm
      refine ⟨by omega, fun hk4 hno => ?_⟩
      have hm2 := byS_mono R p (k + 1) (4 - (k + 1))
      rw [show k + 1 + (4 - (k + 1)) = 4 by omega, byS, byW_go hno] at hm2
      rw [List.length_append, hl]
      omega)
  have HEND : Hid (same R p → n = 0) := Lib.hid fun h => by have := hok.same_iff.1 h; omega
  have HEND2 : Hid (¬ same R p → n = (n - 1) + 1) := Lib.hid fun h => by have : ¬ tot p = tot R := fun e => h (hok.same_iff.2 e); omega
  have HXL : Hid (xs.length ≤ 300) := Lib.hid (by omega)
  have HPB : Hid (∀ i, i < 4 → p i ≤ 16) := Lib.hid fun i hi => Nat.le_trans (hok.le i hi) (hR i hi)
  have hss : s.size ≤ 16 := by omega
  clear hLK h1 h2 hcc hcc2 hok hx ht hs hR hR16
  go_enter Try.func50, Try.ntmps50
  go_wp2
  go_loopw [8, 13] (fun d i wr => ∃ k : Nat, k ≤ 4 ∧ i = .int .i64 (k : Int) ∧ d = .bool (dnV R p k) ∧ ∃ v', LK P v' (xs ++ prt R p s (n - 1) k) wr ∧ St9 P v W v' wr) (fun _ i _ => 4 - (intOf i).toNat)
  case atStart => exact ⟨0, Nat.zero_le _, rfl, rfl, v, by rw [HL0.out]; exact HST0.out.1, St9.refl⟩
  case round =>
    obtain ⟨k, hk, rfl, rfl, v', hLK, hSt⟩ := hrel
    clear HL0
    have h1 := HST0.out.2.1.next hSt
    have h2 := HST0.out.2.2.next hSt
    have HC1 := Lib.hid h1
    have HC2 := Lib.hid h2
    obtain ⟨la, lb, lc, a0, a1, a2, a3⟩ := h1
    obtain ⟨ld, le, lf, b0, b1, b2, b3⟩ := h2
    have HSt := Lib.hid hSt
    have HLK := Lib.hid hLK
    have HLN := Lib.hid (HLEN.out k hk)
    clear la lb lc ld le lf hSt hLK HLEN HST0
    rw [Nat.zero_add] at a1 a2 a3
    by_cases hlt : k < 4
    · have hk4 : k = 0 ∨ k = 1 ∨ k = 2 ∨ k = 3 := by omega
      clear HEND HEND2
      rcases hk4 with rfl | rfl | rfl | rfl
      · have HPK := HPB.out 0 (by omega)
        by_cases hA : p 0 = R 0
        · have q1 : (((p 0 : Nat) : Int) == ((R 0 : Nat) : Int)) = true := by rw [hA]; simp
          have HPR : Hid (prt R p s (n - 1) 1 = prt R p s (n - 1) 0) := Lib.hid (prt_no (.inl hA))
          have HDN : Hid (dnV R p 1 = dnV R p 0) := Lib.hid (by show (dnV R p 0 && decide (p 0 = R 0)) = _; rw [decide_eq_true hA, Bool.and_true])
          clear hA IH
          go_wp2
          go_region
          go_wp2
          go_roundw
          case rel => exact ⟨1, by omega, by go_num, by rw [HDN.out], v', by rw [HPR.out]; exact HLK.out, (by first | exact HSt.out.drewN _ | exact (HSt.out.drewN _).drewN _)⟩
          case measure => first | (simp [intOf]; done) | (simp [intOf]; omega)
        · have q1 : (((p 0 : Nat) : Int) == ((R 0 : Nat) : Int)) = false := by simp; omega
          have HDN : Hid (dnV R p 1 = false) := Lib.hid (by show (dnV R p 0 && decide (p 0 = R 0)) = _; rw [decide_eq_false hA, Bool.and_false])
          rcases (Or.inl trivial : True ∨ False) with hB | hB
          · have hno : ¬ no R p 0 := fun hx => hx.elim hA (fun hy => absurd hy.1 (by omega))
            have HPR : Hid (xs ++ prt R p s (n - 1) 1 = (xs ++ prt R p s (n - 1) 0) ++ behind (s ++ abcd1 0) ((ll R (n - 1) (up p 0)).map lett)) := Lib.hid (by rw [prt_go hno, List.append_assoc])
            have HI := Lib.hid (fun v xs g c W h1 h2 h3 h4 h5 => IH 0 (by omega) hno v xs g c W h1 h2 h3 h4 h5)
            have HX := Lib.hid (HLN.out.2 (by omega) hno)
            have HUP : Hid ((pL p).set 0 (((p 0 : Nat) : Int) + 1) = pL (up p 0)) := Lib.hid (pL_up p (by omega))
            clear hA hB IH hno HPB HLN
            unfold abcd1 at HI HPR
            generalize xs ++ prt R p s (n - 1) 0 = ys at *
            go_wp2
            go_region
            go_wp2
            go_region
            go_wp2_with (first
              | (go_at_call 57; refine (((HC1.out.drewN _).drewN _).own c1).mono ?_; rintro e w1 ⟨v1, rfl, hr1, hb1⟩
                 obtain ⟨g, c, rfl, hg1, hg2⟩ := hr1.form' (n := 4) rfl (by omega)
                 have hc : w1.cell? ⟨g, 0, none⟩ = some (.int .i64 ((p 0 : Nat) : Int)) := hr1.cell (j := 0) (by simp [pL])
                 have hf := hr1.free 0
                 have hst := (hr1.set 0 (((p 0 : Nat) : Int) + 1)).1
                 rw [HUP.out] at hst
                 have hroom := (RInts.of_row hr1).room _ _ _ rfl
                 have HST := Lib.hid hst
                 have HBS := Lib.hid (hb1.setCell (p := ⟨g, 0, none⟩) hg1 (.int .i64 (((p 0 : Nat) : Int) + 1)))
                 have HGG : Hid (wr.heap.size ≤ g ∧ g < w1.heap.size) := Lib.hid ⟨hg1, hg2⟩
                 clear hst hr1 hb1)
              | (go_at_call 50; refine (HI.out v' ys g c _ HX.out ((show LK P v' ys ((wr.drewN _).drewN _) from HLK.out).below HBS.out) (C4.of_row HST.out (by simp [World.setCell]; exact HGG.out.2) (by have := HLK.out.2.2.1; have := HGG.out.1; omega) (fun e => by have := (HLK.out.2.2.2.blk g e.symm).2; have := HGG.out.1; omega)) (((HC2.out.drewN _).drewN _).next (St9.below HBS.out)) hroom).mono ?_
                 rintro e w2 ⟨rfl, v2, hL2, hS2⟩))
            go_roundw
            case rel => exact ⟨1, by omega, by go_num, by rw [HDN.out], v2, by rw [HPR.out]; exact hL2, ((HSt.out.drewN _).drewN _).trans ((St9.below HBS.out).trans hS2)⟩
            case measure => first | (simp [intOf]; done) | (simp [intOf]; omega)
          · exact hB.elim
      · have HPK := HPB.out 1 (by omega)
        by_cases hA : p 1 = R 1
        · have q1 : (((p 1 : Nat) : Int) == ((R 1 : Nat) : Int)) = true := by rw [hA]; simp
          have HPR : Hid (prt R p s (n - 1) 2 = prt R p s (n - 1) 1) := Lib.hid (prt_no (.inl hA))
          have HDN : Hid (dnV R p 2 = dnV R p 1) := Lib.hid (by show (dnV R p 1 && decide (p 1 = R 1)) = _; rw [decide_eq_true hA, Bool.and_true])
          clear hA IH
          go_wp2
          go_region
          go_wp2
          go_roundw
          case rel => exact ⟨2, by omega, by go_num, by rw [HDN.out], v', by rw [HPR.out]; exact HLK.out, (by first | exact HSt.out.drewN _ | exact (HSt.out.drewN _).drewN _)⟩
          case measure => first | (simp [intOf]; done) | (simp [intOf]; omega)
        · have q1 : (((p 1 : Nat) : Int) == ((R 1 : Nat) : Int)) = false := by simp; omega
          have HDN : Hid (dnV R p 2 = false) := Lib.hid (by show (dnV R p 1 && decide (p 1 = R 1)) = _; rw [decide_eq_false hA, Bool.and_false])
          by_cases hB : p 0 = p 1
          · have q2 : (((p 0 : Nat) : Int) == ((p 1 : Nat) : Int)) = true := by rw [hB]; simp
            have HPR : Hid (prt R p s (n - 1) 2 = prt R p s (n - 1) 1) := Lib.hid (prt_no (.inr ⟨by omega, hB.symm⟩))
            clear hA hB IH
            go_wp2
            go_region
            go_wp2
            go_region
            go_wp2
            go_roundw
            case rel => exact ⟨2, by omega, by go_num, by rw [HDN.out], v', by rw [HPR.out]; exact HLK.out, (by first | exact HSt.out.drewN _ | exact (HSt.out.drewN _).drewN _)⟩
            case measure => first | (simp [intOf]; done) | (simp [intOf]; omega)
          · have q2 : (((p 0 : Nat) : Int) == ((p 1 : Nat) : Int)) = false := by simp; omega
            have hno : ¬ no R p 1 := fun hx => hx.elim hA (fun hy => hB hy.2.symm)
            have HPR : Hid (xs ++ prt R p s (n - 1) 2 = (xs ++ prt R p s (n - 1) 1) ++ behind (s ++ abcd1 1) ((ll R (n - 1) (up p 1)).map lett)) := Lib.hid (by rw [prt_go hno, List.append_assoc])
            have HI := Lib.hid (fun v xs g c W h1 h2 h3 h4 h5 => IH 1 (by omega) hno v xs g c W h1 h2 h3 h4 h5)
            have HX := Lib.hid (HLN.out.2 (by omega) hno)
            have HUP : Hid ((pL p).set 1 (((p 1 : Nat) : Int) + 1) = pL (up p 1)) := Lib.hid (pL_up p (by omega))
            clear hA hB IH hno HPB HLN
            unfold abcd1 at HI HPR
            generalize xs ++ prt R p s (n - 1) 1 = ys at *
            go_wp2
            go_region
            go_wp2
            go_region
            go_wp2_with (first
              | (go_at_call 57; refine (((HC1.out.drewN _).drewN _).own c1).mono ?_; rintro e w1 ⟨v1, rfl, hr1, hb1⟩
                 obtain ⟨g, c, rfl, hg1, hg2⟩ := hr1.form' (n := 4) rfl (by omega)
                 have hc : w1.cell? ⟨g, 1, none⟩ = some (.int .i64 ((p 1 : Nat) : Int)) := hr1.cell (j := 1) (by simp [pL])
                 have hf := hr1.free 1
                 have hst := (hr1.set 1 (((p 1 : Nat) : Int) + 1)).1
                 rw [HUP.out] at hst
                 have hroom := (RInts.of_row hr1).room _ _ _ rfl
                 have HST := Lib.hid hst
                 have HBS := Lib.hid (hb1.setCell (p := ⟨g, 1, none⟩) hg1 (.int .i64 (((p 1 : Nat) : Int) + 1)))
                 have HGG : Hid (wr.heap.size ≤ g ∧ g < w1.heap.size) := Lib.hid ⟨hg1, hg2⟩
                 clear hst hr1 hb1)
              | (go_at_call 50; refine (HI.out v' ys g c _ HX.out ((show LK P v' ys ((wr.drewN _).drewN _) from HLK.out).below HBS.out) (C4.of_row HST.out (by simp [World.setCell]; exact HGG.out.2) (by have := HLK.out.2.2.1; have := HGG.out.1; omega) (fun e => by have := (HLK.out.2.2.2.blk g e.symm).2; have := HGG.out.1; omega)) (((HC2.out.drewN _).drewN _).next (St9.below HBS.out)) hroom).mono ?_
                 rintro e w2 ⟨rfl, v2, hL2, hS2⟩))
            go_roundw
            case rel => exact ⟨2, by omega, by go_num, by rw [HDN.out], v2, by rw [HPR.out]; exact hL2, ((HSt.out.drewN _).drewN _).trans ((St9.below HBS.out).trans hS2)⟩
            case measure => first | (simp [intOf]; done) | (simp [intOf]; omega)
      · have HPK := HPB.out 2 (by omega)
        by_cases hA : p 2 = R 2
        · have q1 : (((p 2 : Nat) : Int) == ((R 2 : Nat) : Int)) = true := by rw [hA]; simp
          have HPR : Hid (prt R p s (n - 1) 3 = prt R p s (n - 1) 2) := Lib.hid (prt_no (.inl hA))
          have HDN : Hid (dnV R p 3 = dnV R p 2) := Lib.hid (by show (dnV R p 2 && decide (p 2 = R 2)) = _; rw [decide_eq_true hA, Bool.and_true])
          clear hA IH
          go_wp2
          go_region
          go_wp2
          go_roundw
          case rel => exact ⟨3, by omega, by go_num, by rw [HDN.out], v', by rw [HPR.out]; exact HLK.out, (by first | exact HSt.out.drewN _ | exact (HSt.out.drewN _).drewN _)⟩
          case measure => first | (simp [intOf]; done) | (simp [intOf]; omega)
        · have q1 : (((p 2 : Nat) : Int) == ((R 2 : Nat) : Int)) = false := by simp; omega
          have HDN : Hid (dnV R p 3 = false) := Lib.hid (by show (dnV R p 2 && decide (p 2 = R 2)) = _; rw [decide_eq_false hA, Bool.and_false])
          by_cases hB : p 1 = p 2
          · have q2 : (((p 1 : Nat) : Int) == ((p 2 : Nat) : Int)) = true := by rw [hB]; simp
            have HPR : Hid (prt R p s (n - 1) 3 = prt R p s (n - 1) 2) := Lib.hid (prt_no (.inr ⟨by omega, hB.symm⟩))
            clear hA hB IH
            go_wp2
            go_region
            go_wp2
            go_region
            go_wp2
            go_roundw
            case rel => exact ⟨3, by omega, by go_num, by rw [HDN.out], v', by rw [HPR.out]; exact HLK.out, (by first | exact HSt.out.drewN _ | exact (HSt.out.drewN _).drewN _)⟩
            case measure => first | (simp [intOf]; done) | (simp [intOf]; omega)
          · have q2 : (((p 1 : Nat) : Int) == ((p 2 : Nat) : Int)) = false := by simp; omega
            have hno : ¬ no R p 2 := fun hx => hx.elim hA (fun hy => hB hy.2.symm)
            have HPR : Hid (xs ++ prt R p s (n - 1) 3 = (xs ++ prt R p s (n - 1) 2) ++ behind (s ++ abcd1 2) ((ll R (n - 1) (up p 2)).map lett)) := Lib.hid (by rw [prt_go hno, List.append_assoc])
            have HI := Lib.hid (fun v xs g c W h1 h2 h3 h4 h5 => IH 2 (by omega) hno v xs g c W h1 h2 h3 h4 h5)
            have HX := Lib.hid (HLN.out.2 (by omega) hno)
            have HUP : Hid ((pL p).set 2 (((p 2 : Nat) : Int) + 1) = pL (up p 2)) := Lib.hid (pL_up p (by omega))
            clear hA hB IH hno HPB HLN
            unfold abcd1 at HI HPR
            generalize xs ++ prt R p s (n - 1) 2 = ys at *
            go_wp2
            go_region
            go_wp2
            go_region
            go_wp2_with (first
              | (go_at_call 57; refine (((HC1.out.drewN _).drewN _).own c1).mono ?_; rintro e w1 ⟨v1, rfl, hr1, hb1⟩
                 obtain ⟨g, c, rfl, hg1, hg2⟩ := hr1.form' (n := 4) rfl (by omega)
                 have hc : w1.cell? ⟨g, 2, none⟩ = some (.int .i64 ((p 2 : Nat) : Int)) := hr1.cell (j := 2) (by simp [pL])
                 have hf := hr1.free 2
                 have hst := (hr1.set 2 (((p 2 : Nat) : Int) + 1)).1
                 rw [HUP.out] at hst
                 have hroom := (RInts.of_row hr1).room _ _ _ rfl
                 have HST := Lib.hid hst
                 have HBS := Lib.hid (hb1.setCell (p := ⟨g, 2, none⟩) hg1 (.int .i64 (((p 2 : Nat) : Int) + 1)))
                 have HGG : Hid (wr.heap.size ≤ g ∧ g < w1.heap.size) := Lib.hid ⟨hg1, hg2⟩
                 clear hst hr1 hb1)
              | (go_at_call 50; refine (HI.out v' ys g c _ HX.out ((show LK P v' ys ((wr.drewN _).drewN _) from HLK.out).below HBS.out) (C4.of_row HST.out (by simp [World.setCell]; exact HGG.out.2) (by have := HLK.out.2.2.1; have := HGG.out.1; omega) (fun e => by have := (HLK.out.2.2.2.blk g e.symm).2; have := HGG.out.1; omega)) (((HC2.out.drewN _).drewN _).next (St9.below HBS.out)) hroom).mono ?_
                 rintro e w2 ⟨rfl, v2, hL2, hS2⟩))
            go_roundw
            case rel => exact ⟨3, by omega, by go_num, by rw [HDN.out], v2, by rw [HPR.out]; exact hL2, ((HSt.out.drewN _).drewN _).trans ((St9.below HBS.out).trans hS2)⟩
            case measure => first | (simp [intOf]; done) | (simp [intOf]; omega)
      · have HPK := HPB.out 3 (by omega)
        by_cases hA : p 3 = R 3
        · have q1 : (((p 3 : Nat) : Int) == ((R 3 : Nat) : Int)) = true := by rw [hA]; simp
          have HPR : Hid (prt R p s (n - 1) 4 = prt R p s (n - 1) 3) := Lib.hid (prt_no (.inl hA))
          have HDN : Hid (dnV R p 4 = dnV R p 3) := Lib.hid (by show (dnV R p 3 && decide (p 3 = R 3)) = _; rw [decide_eq_true hA, Bool.and_true])
          clear hA IH
          go_wp2
          go_region
          go_wp2
          go_roundw
          case rel => exact ⟨4, by omega, by go_num, by rw [HDN.out], v', by rw [HPR.out]; exact HLK.out, (by first | exact HSt.out.drewN _ | exact (HSt.out.drewN _).drewN _)⟩
          case measure => first | (simp [intOf]; done) | (simp [intOf]; omega)
        · have q1 : (((p 3 : Nat) : Int) == ((R 3 : Nat) : Int)) = false := by simp; omega
          have HDN : Hid (dnV R p 4 = false) := Lib.hid (by show (dnV R p 3 && decide (p 3 = R 3)) = _; rw [decide_eq_false hA, Bool.and_false])
          by_cases hB : p 2 = p 3
          · have q2 : (((p 2 : Nat) : Int) == ((p 3 : Nat) : Int)) = true := by rw [hB]; simp
            have HPR : Hid (prt R p s (n - 1) 4 = prt R p s (n - 1) 3) := Lib.hid (prt_no (.inr ⟨by omega, hB.symm⟩))
            clear hA hB IH
            go_wp2
            go_region
            go_wp2
            go_region
            go_wp2
            go_roundw
            case rel => exact ⟨4, by omega, by go_num, by rw [HDN.out], v', by rw [HPR.out]; exact HLK.out, (by first | exact HSt.out.drewN _ | exact (HSt.out.drewN _).drewN _)⟩
            case measure => first | (simp [intOf]; done) | (simp [intOf]; omega)
          · have q2 : (((p 2 : Nat) : Int) == ((p 3 : Nat) : Int)) = false := by simp; omega
            have hno : ¬ no R p 3 := fun hx => hx.elim hA (fun hy => hB hy.2.symm)
            have HPR : Hid (xs ++ prt R p s (n - 1) 4 = (xs ++ prt R p s (n - 1) 3) ++ behind (s ++ abcd1 3) ((ll R (n - 1) (up p 3)).map lett)) := Lib.hid (by rw [prt_go hno, List.append_assoc])
            have HI := Lib.hid (fun v xs g c W h1 h2 h3 h4 h5 => IH 3 (by omega) hno v xs g c W h1 h2 h3 h4 h5)
            have HX := Lib.hid (HLN.out.2 (by omega) hno)
            have HUP : Hid ((pL p).set 3 (((p 3 : Nat) : Int) + 1) = pL (up p 3)) := Lib.hid (pL_up p (by omega))
            clear hA hB IH hno HPB HLN
            unfold abcd1 at HI HPR
            generalize xs ++ prt R p s (n - 1) 3 = ys at *
            go_wp2
            go_region
            go_wp2
            go_region
            go_wp2_with (first
              | (go_at_call 57; refine (((HC1.out.drewN _).drewN _).own c1).mono ?_; rintro e w1 ⟨v1, rfl, hr1, hb1⟩
                 obtain ⟨g, c, rfl, hg1, hg2⟩ := hr1.form' (n := 4) rfl (by omega)
                 have hc : w1.cell? ⟨g, 3, none⟩ = some (.int .i64 ((p 3 : Nat) : Int)) := hr1.cell (j := 3) (by simp [pL])
                 have hf := hr1.free 3
                 have hst := (hr1.set 3 (((p 3 : Nat) : Int) + 1)).1
                 rw [HUP.out] at hst
                 have hroom := (RInts.of_row hr1).room _ _ _ rfl
                 have HST := Lib.hid hst
                 have HBS := Lib.hid (hb1.setCell (p := ⟨g, 3, none⟩) hg1 (.int .i64 (((p 3 : Nat) : Int) + 1)))
                 have HGG : Hid (wr.heap.size ≤ g ∧ g < w1.heap.size) := Lib.hid ⟨hg1, hg2⟩
                 clear hst hr1 hb1)
              | (go_at_call 50; refine (HI.out v' ys g c _ HX.out ((show LK P v' ys ((wr.drewN _).drewN _) from HLK.out).below HBS.out) (C4.of_row HST.out (by simp [World.setCell]; exact HGG.out.2) (by have := HLK.out.2.2.1; have := HGG.out.1; omega) (fun e => by have := (HLK.out.2.2.2.blk g e.symm).2; have := HGG.out.1; omega)) (((HC2.out.drewN _).drewN _).next (St9.below HBS.out)) hroom).mono ?_
                 rintro e w2 ⟨rfl, v2, hL2, hS2⟩))
            go_roundw
            case rel => exact ⟨4, by omega, by go_num, by rw [HDN.out], v2, by rw [HPR.out]; exact hL2, ((HSt.out.drewN _).drewN _).trans ((St9.below HBS.out).trans hS2)⟩
            case measure => first | (simp [intOf]; done) | (simp [intOf]; omega)
    · obtain rfl : k = 4 := by omega
      by_cases hsm : same R p
      · have hd : dnV R p 4 = true := by rw [dnV_4, decide_eq_true hsm]
        have hn0 := HEND.out hsm
        subst hn0
        have HPR : Hid (xs ++ prt R p s (0 - 1) 4 = xs) := Lib.hid (by rw [prt_same s _ hsm 4 (by omega), List.append_nil])
        have HE : Hid (behind s ((ll R 0 p).map lett) = [s]) := Lib.hid (behind_nil s)
        rw [HPR.out] at HLK
        rw [HE.out, hd]
        clear IH HPR hsm hd HEND HEND2 HLN HPB
        have hLK := HLK.out
        obtain ⟨A, c, rfl⟩ := hLK.2.2.2.shape
        have hc := hLK.1
        have hf := hLK.2.1
        have hps := hLK.2.2.1
        generalize hxn : xs.length = q at *
        have HXN := Lib.hid hxn
        clear hxn hLK
        go_wp2_with (at_builtin; refine wpList_pushS (.tmp 62) (.tmp 64) rfl rfl (P + 1) _ xs rfl HLK.out.2.2.2 rfl (by rw [HXN.out]; have := HXL.out; omega) (by omega) ?_; intro v2 w' hrow' hg' hat'; obtain ⟨A2, c2, rfl⟩ := hrow'.shape; have hcc := (cell_grownL hg' hps (fun e => by have := (HLK.out.2.2.2.blk P e.symm).1; omega) 0).trans hc; have hff := (frozen_grownL hg' hps (fun e => by have := (HLK.out.2.2.2.blk P e.symm).1; omega) 0).trans hf)
        have hfin := HLK.out.push hg' hrow'
        have hfs := St9.push (ys := xs) HLK.out hg' hat'
        have hln : (xs ++ [s]).length = xs.length + 1 := by simp
        rw [hln] at hfin hfs
        go_end0
        exact ⟨rfl, _, (by first | exact hfin.1 | (rw [HE.out]; exact hfin.1)), HSt.out.trans hfs⟩
      · have hd : dnV R p 4 = false := by rw [dnV_4, decide_eq_false hsm]
        have hn1 := HEND2.out hsm
        rw [prt_full] at HLK
        rw [hd]
        rw [← hn1] at HLK
        clear IH hsm hd HEND HEND2 HLN HPB
        go_wp2
        go_end0
        exact ⟨rfl, _, HLK.out, HSt.out⟩
theorem abcd1_size {k : Nat} (h : k < 4) : (abcd1 k).size = 1 := by rw [abcd1_eq h]; rfl
theorem voLook_any (R : Nat → Nat) (P g2 o2 c2 : Nat) (hR : sm R) (hR16 : tot R ≤ 16) (hcc2 : 4 ≤ c2 ∧ c2 ≤ maxLen) : ∀ (n : Nat) (p : Nat → Nat) (g1 c1 : Nat) (s : ByteArray) (v : Value) (xs : List ByteArray) (W : World), Ok R p → tot p + n = tot R → s.size + n ≤ 16 → xs.length + Go.Proofs.Ytnlcainfkchieaa.W R p ≤ 300 → LK P v xs W → C4 p g1 0 P v W → C4 R g2 o2 P v W → 4 ≤ c1 ∧ c1 ≤ maxLen →
    Calls Try.prog 50 #[.string s, .slice (some ⟨g1, 0, none⟩) 4 c1, .slice (some ⟨g2, o2, none⟩) 4 c2, .pointer (some ⟨P, 0, none⟩)] W (LkRet P v (xs ++ behind s ((ll R n p).map lett)) W)
  | 0, p, g1, c1, s, v, xs, W, hok, ht, hs, hx, hLK, h1, h2, hcc => voLook_step R p P g1 c1 g2 o2 c2 0 s v xs W hR hR16 hok ht hs hx hLK h1 h2 hcc hcc2 (fun i hi hno => by
      have h1 := (hok.up hi hno).tle
      rw [tot_up p hi] at h1
      omega)
  | n + 1, p, g1, c1, s, v, xs, W, hok, ht, hs, hx, hLK, h1, h2, hcc => voLook_step R p P g1 c1 g2 o2 c2 (n + 1) s v xs W hR hR16 hok ht hs hx hLK h1 h2 hcc hcc2 (fun i hi hno v xs g c W k1 k2 k3 k4 k5 => by
      exact voLook_any R P g2 o2 c2 hR hR16 hcc2 n (up p i) g c (s ++ abcd1 i) v xs W (hok.up hi hno) (by rw [tot_up p hi]; omega) (by rw [ByteArray.size_append, abcd1_size hi]; omega) k1 k2 k3 k4 k5)
end Go.Proofs.Ytnlcainfkchieaa

/- votesOfRank: the votes with a rank. -/
namespace Go.Proofs.Ytnlcainfkchieaa
open Go.RowKit
set_option linter.unusedVariables false
def sLen9 : Value → Nat | .slice _ n _ => n | _ => 0
theorem uw_succ (R p : Nat → Nat) (n k : Nat) : uw R (n + 1) p k = ci R p k :: uw R n (up p (ci R p k)) (k - byS R p (ci R p k)) := rfl
theorem lett_cons (c : Nat) (l : List Nat) : lett (c :: l) = UInt8.ofNat (97 + c) :: lett l := rfl
theorem wpList_store_rowN {ops : Array Oper} {rest : List Oper} {o : Oper} {a : Act} {w : World} {Q : Exit → Act → World → Prop} (hgd : o.guard = none) (ty : TypeId) (x y : Operand) (ho : o.op = .store ty x y)
    (hd : o.dst = none) (g : Nat) (cells : Array Value) (hx : a.eval x = .pointer (some ⟨g, 0, none⟩)) (hy : a.eval y = .agg cells)
    (t : TypeId) (old : Array Value) (hg : w.heap[g]? = some (.cells old t (0, 0))) (hi : (Try.prog.info? ty).map (·.size) = some cells.size)
    (hold : old.size = cells.size) (h1 : cells.all (·.oneCell') = true)
    (h : wpList Try.prog ops Q rest a (w.setRow g cells)) : wpList Try.prog ops Q (o :: rest) a w :=
  wpList_store_row hgd ty x y ho g cells hx hy t old hg hi hold h1 (by rw [hd]; exact h)
theorem BOwn.setR {W9 : World} {B g : Nat} {v : Value} {xs : List UInt8} (h : BOwn W9 B v xs) (hg : g < B) (cs : Array Value) : BOwn (W9.setRow g cs) B v xs := by
  rcases h with ⟨h1, h2⟩
  refine ⟨h1, ?_⟩
  rcases h2 with h3 | ⟨k, cap, cur, e1, e2, e3, e4⟩
  · exact .inl h3
  · exact .inr ⟨k, cap, cur, e1, e2, (setRow_other _ _ _ _ (by omega)).trans e3, e4⟩
theorem BOwn.slen {W9 : World} {B : Nat} {v : Value} {xs : List UInt8} (h : BOwn W9 B v xs) : sLen9 v = xs.length := by
  obtain ⟨A, c, rfl⟩ := h.shape
  rfl
set_option maxRecDepth 100000 in
set_option maxHeartbeats 4000000 in
theorem votesOfRank_any (R : Nat → Nat) (mb k0 : Nat) (w : World) (hR : sm R) (hR16 : tot R ≤ 16) (h : MapW w mb (W R)) (hk0 : k0 < W R (fun _ => 0)) :
    Calls Try.prog 52 #[raceV R mb, .int .i64 (k0 : Int)] w fun e w' => e = .returned (.string (strOf (lett (uw R (tot R) (fun _ => 0) k0)))) ∧ MapW w' mb (W R) ∧ w.grownBy w' (some mb) := by
  have HS0 := Lib.hid (VR.start (p := fun _ => 0) h)
  have HB : Hid (∀ (p : Nat → Nat) (i : Nat) (W9 : World), Ok R p → i < 4 → VR R p mb w W9 → Calls Try.prog 66 #[.agg #[.int .i64 ((R 0 : Nat) : Int), .int .i64 ((R 1 : Nat) : Int), .int .i64 ((R 2 : Nat) : Int), .int .i64 ((R 3 : Nat) : Int), .map (some mb)], .agg #[.int .i64 ((p 0 : Nat) : Int), .int .i64 ((p 1 : Nat) : Int), .int .i64 ((p 2 : Nat) : Int), .int .i64 ((p 3 : Nat) : Int)], .int .i64 (i : Int)] W9 fun e w' => e = .returned (.int .i64 ((byW R p i : Nat) : Int)) ∧ VR R p mb w w' ∧ W9.grownBy w' (some mb)) := Lib.hid fun p i W9 hp hi hW => (waysBy_ok R p i mb W9 hi hR hR16 hp hW.mp).mono fun _ _ ⟨h1, h2, h3⟩ => ⟨h1, hW.step h2 h3, h3⟩
  have HT : Hid (∀ (p : Nat → Nat) (i : Nat) (W9 : World), Ok R p → i < 4 → VR R p mb w W9 → Calls Try.prog 67 #[.agg #[.int .i64 ((p 0 : Nat) : Int), .int .i64 ((p 1 : Nat) : Int), .int .i64 ((p 2 : Nat) : Int), .int .i64 ((p 3 : Nat) : Int)], .int .i64 (i : Int)] W9 fun e w' => e = .returned (stA (up p i)) ∧ VR R p mb w w' ∧ Below W9.heap.size W9 w') := Lib.hid fun p i W9 hp hi hW => (with_any p i hi (Nat.le_trans (hp.le i hi) (hR i hi)) W9).mono fun _ _ ⟨h1, h2⟩ => ⟨h1, hW.below h2, h2⟩
  have HBB : Hid (∀ p i, byW R p i ≤ 4294967296) := Lib.hid fun p i => byW_bd hR16 i
  have HWB : Hid (∀ p, W R p ≤ 4294967296) := Lib.hid fun p => W_bd hR16
  have HMB := Lib.hid h.lt
  obtain ⟨T, hT⟩ : ∃ T, lett (uw R (tot R) (fun _ => 0) k0) = T := ⟨_, rfl⟩
  rw [hT]
  have HT0 := Lib.hid hT
  have hk1 := HWB.out (fun _ => 0)
  clear hT h
  unfold raceV
  go_enter Try.func52, Try.ntmps52
  go_wp2
  go_loopw [1, 5] (fun r v wr => ∃ (n : Nat) (p : Nat → Nat) (k : Nat) (F : List UInt8), Ok R p ∧ tot p + n = tot R ∧ k < W R p ∧ r = .int .i64 (k : Int) ∧ F.length = tot p ∧ F ++ lett (uw R n p k) = T ∧ BOwn wr (w.heap.size + 2) v F ∧ VR R p mb w wr) (fun _ v _ => 17 - sLen9 v)
  case atStart => exact ⟨tot R, fun _ => 0, k0, [], Ok.zero, by simp [tot], hk0, rfl, rfl, HT0.out, BOwn.nil _ _, HS0.out⟩
  case round =>
    obtain ⟨n, p, k, F, hok, hn, hk, rfl, hF, hT, hrow, hV⟩ := hrel
    clear HS0 HT0 hk0 hk1
    obtain ⟨z0, z1, z2, z3, z4, z5, z6, z7, z8⟩ := hV.cells
    by_cases hs : same R p
    · have hq := (eq_same R p).trans (decide_eq_true hs)
      have hn0 : n = 0 := by have := hok.same_iff.1 hs; omega
      subst hn0
      have HTE : Hid (F = T) := Lib.hid (by rw [← hT]; simp [uw, lett])
      have hcv := run_str_own hrow
      have HV := Lib.hid hV
      clear hrow hT hs hok hV HB HT HBB HWB
      go_wp2
      go_ret
      exact ⟨congrArg (fun x => Ending.returned (.string (strOf x))) HTE.out, HV.out.mp, HV.out.gr⟩
    · have hq := (eq_same R p).trans (decide_eq_false hs)
      have hst := step_ok hok hk hs
      have hne : ¬ tot p = tot R := fun e => hs (hok.same_iff.2 e)
      have hn1 : ∃ m, n = m + 1 := ⟨n - 1, by omega⟩
      obtain ⟨m, rfl⟩ := hn1
      have HV := Lib.hid hV
      have HROW := Lib.hid hrow
      have HOK := Lib.hid hok
      have HST := Lib.hid hst
      have HTE := Lib.hid hT
      have HF := Lib.hid hF
      have HKK : Hid (k ≤ 4294967296) := Lib.hid (by have := HWB.out p; omega)
      have HN := Lib.hid hn
      clear hrow hT hs hst hV hF hok hn hne
      go_wp2
      clear z0 z1 z2 z3 z4 z5 z6 z7 z8 hq
      go_loopw [1, 7] (fun r q wr => ∃ i : Nat, i ≤ ci R p k ∧ q = .int .i64 (i : Int) ∧ r = .int .i64 ((k - byS R p i : Nat) : Int) ∧ VR R p mb w wr ∧ BOwn wr (w.heap.size + 2) u5 F) (fun _ q _ => 4 - (intOf q).toNat)
      case atStart => exact ⟨0, Nat.zero_le _, rfl, rfl, HV.out, HROW.out⟩
      case round =>
        obtain ⟨i, hi, rfl, rfl, hV, hrow⟩ := hrel
        clear HV HROW
        obtain ⟨h4, hno, hok2, hle, hlt2, htot⟩ := HST.out
        have hc4 := ci_lt R p k
        have hi4 : i < 4 := by omega
        have hbs : byS R p (i + 1) = byS R p i + byW R p i := rfl
        have hbb := HBB.out p i
        have HBI : Hid (∀ W9, VR R p mb w W9 → Calls Try.prog 66 #[.agg #[.int .i64 ((R 0 : Nat) : Int), .int .i64 ((R 1 : Nat) : Int), .int .i64 ((R 2 : Nat) : Int), .int .i64 ((R 3 : Nat) : Int), .map (some mb)], .agg #[.int .i64 ((p 0 : Nat) : Int), .int .i64 ((p 1 : Nat) : Int), .int .i64 ((p 2 : Nat) : Int), .int .i64 ((p 3 : Nat) : Int)], .int .i64 (i : Int)] W9 fun e w' => e = .returned (.int .i64 ((byW R p i : Nat) : Int)) ∧ VR R p mb w w' ∧ W9.grownBy w' (some mb)) := Lib.hid fun W9 hW => HB.out p i W9 HOK.out hi4 hW
        have HROW := Lib.hid hrow
        have HV := Lib.hid hV
        have HKK1 := HKK.out
        obtain ⟨z0, z1, z2, z3, z4, z5, z6, z7, z8⟩ := hV.cells
        clear hrow hV HB HBB HWB
        by_cases hlt : i < ci R p k
        · have hge : byS R p (i + 1) ≤ k := Nat.le_trans (by have := byS_mono R p (i + 1) (ci R p k - (i + 1)); rwa [show i + 1 + (ci R p k - (i + 1)) = ci R p k by omega] at this) hle
          have HE : Hid (((k - byS R p (i + 1) : Nat) : Int) = ((k - byS R p i : Nat) : Int) - ((byW R p i : Nat) : Int)) := Lib.hid (by omega)
          have q1 : decide (((byW R p i : Nat) : Int) ≤ ((k - byS R p i : Nat) : Int)) = true := decide_eq_true (by omega)
          have m1 : 0 ≤ ((k - byS R p i : Nat) : Int) - ((byW R p i : Nat) : Int) := by omega
          have m2 : ((k - byS R p i : Nat) : Int) ≤ 4294967296 := by omega
          clear hbs hge hle hlt2 h4 hno hok2 htot HST
          obtain ⟨K1, hK1⟩ : ∃ K1 : Int, ((k - byS R p i : Nat) : Int) = K1 := ⟨_, rfl⟩
          rw [hK1] at HE q1 m1 m2 ⊢
          clear hK1
          generalize byW R p i = B0 at *
          go_wp2_with (first | (go_at_call 66; refine (HBI.out _ (by first | exact HV.out | assumption)).mono ?_; rintro e w' ⟨rfl, hV2, hg2⟩; replace HROW := Lib.hid (HROW.out.map hg2 (by have := HMB.out; omega)); clear z0 z1 z2 z3 z4 z5 z6 z7 z8; obtain ⟨z0, z1, z2, z3, z4, z5, z6, z7, z8⟩ := hV2.cells))
          go_roundw
          case rel => exact ⟨i + 1, by omega, by go_num, by rw [HE.out], hV2, HROW.out⟩
          first | (simp [intOf]; done) | (simp [intOf]; omega)
        · obtain rfl : i = ci R p k := by omega
          have q1 : decide (((byW R p (ci R p k) : Nat) : Int) ≤ ((k - byS R p (ci R p k) : Nat) : Int)) = false := decide_eq_false (by have := ci_at h4; omega)
          have HTE2 : Hid ((F ++ [UInt8.ofNat (97 + ci R p k)]) ++ lett (uw R m (up p (ci R p k)) (k - byS R p (ci R p k))) = T) := Lib.hid (by rw [← HTE.out, uw_succ, lett_cons, List.append_assoc]; rfl)
          have HOK2 := Lib.hid hok2
          have HLT2 := Lib.hid hlt2
          have HTOT := Lib.hid htot
          have HFL : Hid (F.length ≤ 16) := Lib.hid (by rw [HF.out]; have := HN.out; omega)
          clear hbs hle hlt2 h4 hno hok2 htot HST HTE hlt
          obtain ⟨K1, hK1⟩ : ∃ K1 : Int, ((k - byS R p (ci R p k) : Nat) : Int) = K1 := ⟨_, rfl⟩
          have HK1 := Lib.hid hK1
          rw [hK1] at q1 ⊢
          clear hK1 hi
          generalize hci : ci R p k = i at *
          generalize byW R p i = B0 at *
          have HCI := Lib.hid hci
          have hi3 : i = 0 ∨ i = 1 ∨ i = 2 ∨ i = 3 := by omega
          clear hci
          have HTI : Hid (∀ W9, VR R p mb w W9 → Calls Try.prog 67 #[.agg #[.int .i64 ((p 0 : Nat) : Int), .int .i64 ((p 1 : Nat) : Int), .int .i64 ((p 2 : Nat) : Int), .int .i64 ((p 3 : Nat) : Int)], .int .i64 (i : Int)] W9 fun e w' => e = .returned (.agg (pCells (up p i))) ∧ VR R p mb w w' ∧ Below W9.heap.size W9 w') := Lib.hid fun W9 hW => HT.out p i W9 HOK.out hi4 hW
          clear HT
          rcases hi3 with hi3 | hi3 | hi3 | hi3
          · subst hi3
            go_wp2_with (first
              | (go_at_call 66; refine (HBI.out _ (by assumption)).mono ?_; rintro e w5 ⟨rfl, hV2, hg2⟩; replace HROW := Lib.hid (HROW.out.map hg2 (by have := HMB.out; omega)); replace HV := Lib.hid hV2; clear hg2 hV2 z0 z1 z2 z3 z4 z5 z6 z7 z8; have hz5 := HV.out.sz)
              | (at_builtin; refine wpList_pushB 97 (.tmp 26) (.tmp 29) rfl rfl (w.heap.size + 2) _ F rfl HROW.out rfl (by have := HFL.out; omega) hz5 ?_; intro v' w6 hrow' hg' hat'; have HV6 := Lib.hid (HV.out.own hg' (fun j hj => (HROW.out.blk j hj).1)); clear hg' hat' hz5; obtain ⟨z0, z1, z2, z3, z4, z5, z6, z7, z8⟩ := HV6.out.cells)
              | (go_at_call 67; refine (HTI.out _ HV6.out).mono ?_; rintro e w7 ⟨rfl, hV7, hb7⟩; replace hrow' := hrow'.below hb7; clear z0 z1 z2 z3 z4 z5 z6 z7 z8 hb7)
              | (refine wpList_store_rowN rfl 55 (.tmp 6) (.tmp 33) rfl rfl (w.heap.size + 1) (pCells (up p 0)) rfl rfl 55 _ hV7.st stSz rfl (by simp [pCells, Value.oneCell']) ?_))
            go_roundw
            case rel =>
              exact ⟨m, up p 0, k - byS R p 0, F ++ [97], HOK2.out, by rw [HTOT.out]; have := HN.out; omega, HLT2.out, by rw [HK1.out], by rw [HTOT.out, List.length_append, HF.out]; rfl, HTE2.out, hrow'.setR (by omega) _, hV7.set _⟩
            rw [HROW.out.slen, hrow'.slen, List.length_append]
            have := HFL.out
            show _ < _
            simp
            omega
          · subst hi3
            go_wp2_with (first
              | (go_at_call 66; refine (HBI.out _ (by assumption)).mono ?_; rintro e w5 ⟨rfl, hV2, hg2⟩; replace HROW := Lib.hid (HROW.out.map hg2 (by have := HMB.out; omega)); replace HV := Lib.hid hV2; clear hg2 hV2 z0 z1 z2 z3 z4 z5 z6 z7 z8; have hz5 := HV.out.sz)
              | (at_builtin; refine wpList_pushB 98 (.tmp 26) (.tmp 29) rfl rfl (w.heap.size + 2) _ F rfl HROW.out rfl (by have := HFL.out; omega) hz5 ?_; intro v' w6 hrow' hg' hat'; have HV6 := Lib.hid (HV.out.own hg' (fun j hj => (HROW.out.blk j hj).1)); clear hg' hat' hz5; obtain ⟨z0, z1, z2, z3, z4, z5, z6, z7, z8⟩ := HV6.out.cells)
              | (go_at_call 67; refine (HTI.out _ HV6.out).mono ?_; rintro e w7 ⟨rfl, hV7, hb7⟩; replace hrow' := hrow'.below hb7; clear z0 z1 z2 z3 z4 z5 z6 z7 z8 hb7)
              | (refine wpList_store_rowN rfl 55 (.tmp 6) (.tmp 33) rfl rfl (w.heap.size + 1) (pCells (up p 1)) rfl rfl 55 _ hV7.st stSz rfl (by simp [pCells, Value.oneCell']) ?_))
            go_roundw
            case rel => exact ⟨m, up p 1, k - byS R p 1, F ++ [98], HOK2.out, by rw [HTOT.out]; have := HN.out; omega, HLT2.out, by rw [HK1.out], by rw [HTOT.out, List.length_append, HF.out]; rfl, HTE2.out, hrow'.setR (by omega) _, hV7.set _⟩
            rw [HROW.out.slen, hrow'.slen, List.length_append]
            have := HFL.out
            show _ < _
            simp
            omega
          · subst hi3
            go_wp2_with (first
              | (go_at_call 66; refine (HBI.out _ (by assumption)).mono ?_; rintro e w5 ⟨rfl, hV2, hg2⟩; replace HROW := Lib.hid (HROW.out.map hg2 (by have := HMB.out; omega)); replace HV := Lib.hid hV2; clear hg2 hV2 z0 z1 z2 z3 z4 z5 z6 z7 z8; have hz5 := HV.out.sz)
              | (at_builtin; refine wpList_pushB 99 (.tmp 26) (.tmp 29) rfl rfl (w.heap.size + 2) _ F rfl HROW.out rfl (by have := HFL.out; omega) hz5 ?_; intro v' w6 hrow' hg' hat'; have HV6 := Lib.hid (HV.out.own hg' (fun j hj => (HROW.out.blk j hj).1)); clear hg' hat' hz5; obtain ⟨z0, z1, z2, z3, z4, z5, z6, z7, z8⟩ := HV6.out.cells)
              | (go_at_call 67; refine (HTI.out _ HV6.out).mono ?_; rintro e w7 ⟨rfl, hV7, hb7⟩; replace hrow' := hrow'.below hb7; clear z0 z1 z2 z3 z4 z5 z6 z7 z8 hb7)
              | (refine wpList_store_rowN rfl 55 (.tmp 6) (.tmp 33) rfl rfl (w.heap.size + 1) (pCells (up p 2)) rfl rfl 55 _ hV7.st stSz rfl (by simp [pCells, Value.oneCell']) ?_))
            go_roundw
            case rel => exact ⟨m, up p 2, k - byS R p 2, F ++ [99], HOK2.out, by rw [HTOT.out]; have := HN.out; omega, HLT2.out, by rw [HK1.out], by rw [HTOT.out, List.length_append, HF.out]; rfl, HTE2.out, hrow'.setR (by omega) _, hV7.set _⟩
            rw [HROW.out.slen, hrow'.slen, List.length_append]
            have := HFL.out
            show _ < _
            simp
            omega
          · subst hi3
            go_wp2_with (first
              | (go_at_call 66; refine (HBI.out _ (by assumption)).mono ?_; rintro e w5 ⟨rfl, hV2, hg2⟩; replace HROW := Lib.hid (HROW.out.map hg2 (by have := HMB.out; omega)); replace HV := Lib.hid hV2; clear hg2 hV2 z0 z1 z2 z3 z4 z5 z6 z7 z8; have hz5 := HV.out.sz)
              | (at_builtin; refine wpList_pushB 100 (.tmp 26) (.tmp 29) rfl rfl (w.heap.size + 2) _ F rfl HROW.out rfl (by have := HFL.out; omega) hz5 ?_; intro v' w6 hrow' hg' hat'; have HV6 := Lib.hid (HV.out.own hg' (fun j hj => (HROW.out.blk j hj).1)); clear hg' hat' hz5; obtain ⟨z0, z1, z2, z3, z4, z5, z6, z7, z8⟩ := HV6.out.cells)
              | (go_at_call 67; refine (HTI.out _ HV6.out).mono ?_; rintro e w7 ⟨rfl, hV7, hb7⟩; replace hrow' := hrow'.below hb7; clear z0 z1 z2 z3 z4 z5 z6 z7 z8 hb7)
              | (refine wpList_store_rowN rfl 55 (.tmp 6) (.tmp 33) rfl rfl (w.heap.size + 1) (pCells (up p 3)) rfl rfl 55 _ hV7.st stSz rfl (by simp [pCells, Value.oneCell']) ?_))
            go_roundw
            case rel => exact ⟨m, up p 3, k - byS R p 3, F ++ [100], HOK2.out, by rw [HTOT.out]; have := HN.out; omega, HLT2.out, by rw [HK1.out], by rw [HTOT.out, List.length_append, HF.out]; rfl, HTE2.out, hrow'.setR (by omega) _, hV7.set _⟩
            rw [HROW.out.slen, hrow'.slen, List.length_append]
            have := HFL.out
            show _ < _
            simp
            omega
end Go.Proofs.Ytnlcainfkchieaa
