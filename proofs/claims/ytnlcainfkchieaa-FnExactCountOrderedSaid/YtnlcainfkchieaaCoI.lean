/- CountOrdered: the program. -/
import Derived.Test.YtnlcainfkchieaaHkS10
import Derived.Test.YtnlcainfkchieaaCatI
namespace Go.Proofs.Ytnlcainfkchieaa
open Go.RowKit
set_option linter.unusedVariables false
set_option maxRecDepth 100000 in
set_option maxHeartbeats 1600000 in
theorem countOrd_ret (v : Value) (xs : List Int) (w : World) (h : RInts w v xs) (hl : xs.length ≤ 1048576) : Calls Try.prog 24 #[v] w (Ret w (.tuple #[.int .i64 (coW xs), .bool (resB xs)])) := by
  have HV := Lib.hid (hooksOf_ret v xs w h hl)
  unfold coW
  rcases Bool.eq_false_or_eq_true (resB xs) with hr | hr
  · obtain ⟨hL16, hpos, hpd, _⟩ := hk_facts hr
    have HCT : Hid (∀ (B M g c : Nat) (vs : List Value) (w : World), TRow w B M (.slice (some ⟨g, 0, none⟩) 4 c) vs (hksTo xs 4) → Calls Try.prog 48 #[.slice (some ⟨g, 0, none⟩) 4 c] w fun e w' => ∃ u, e = .returned u ∧ IRow w' w.heap.size u (hkL xs) ∧ Below w.heap.size w w') :=
      Lib.hid fun B M g c vs w h => concat_any w h (hksTo_len xs 4) (fun j hj => hkRow_16 hr j hj)
    unfold hkV at HV
    rw [hr, if_pos rfl] at HV
    rw [hr, if_pos rfl]
    have HLN : Hid ((hksTo xs 4).length = 4) := Lib.hid (hksTo_len xs 4)
    have HCV : Hid (coV xs = (fac (hkL xs).length).tdiv (pd (hkL xs))) := Lib.hid rfl
    have HFB := Lib.hid fac_bd
    have HFS : Hid (∀ k, fac (k + 1) = fac k * ((k : Int) + 1)) := Lib.hid fun k => by rw [fac]; congr 1
    have HPT := Lib.hid (fun k => pd_take (l := hkL xs) (k := k))
    have HPB := Lib.hid (fun k => pd_takeB hpos k)
    have HPE : Hid (pd ((hkL xs).take (hkL xs).length) = pd (hkL xs)) := Lib.hid (by rw [List.take_of_length_le (Nat.le_refl _)])
    obtain ⟨A0, cap, rfl⟩ := h.shape
    clear h hr hpos
    generalize hksTo xs 4 = xss at *
    generalize hkL xs = L at *
    have HP0 : Hid (pd (L.take 0) = 1) := Lib.hid rfl
    go_enter Try.func24, Try.ntmps24
    go_wp2_with (first | (go_at_call 18; refine HV.out.mono ?_; rintro e w1 ⟨v1, vs1, rfl, hr1, hb1⟩; obtain ⟨g1, c1, rfl, _, _, _⟩ := hr1.form HLN.out (by omega)) | (go_at_call 48; refine (HCT.out _ _ _ _ _ _ hr1).mono ?_; rintro e w2 ⟨u, rfl, hr2, hb2⟩; obtain ⟨A2, c2, rfl⟩ := hr2.shape; have HRL := Lib.hid (RInts.of_row hr2); clear hr2))
    go_loop [6, 7, 20] (fun f p i => ∃ k : Nat, k ≤ L.length ∧ i = .int .i64 (k : Int) ∧ f = .int .i64 (fac k) ∧ p = .int .i64 (pd (L.take k))) (fun _ _ i => L.length - (intOf i).toNat)
    case atStart => exact ⟨0, Nat.zero_le _, rfl, rfl, by rw [HP0.out]⟩
    case round =>
      obtain ⟨k, hk, rfl, rfl, rfl⟩ := hrel
      by_cases hlt : k < L.length
      · obtain ⟨g, o, cc, hv, hg, hcells⟩ := HRL.out.cells (by omega)
        have hA : A2 = some ⟨g, o, none⟩ := by injection hv
        subst hA
        clear hv
        have e1 := hcells k hlt
        clear hcells
        have f1 := HFB.out (k + 1) (by omega)
        have HFS1 := Lib.hid (HFS.out k)
        rw [HFS1.out] at f1
        have p0 := HPB.out k
        have p1 := HPB.out (k + 1)
        have HPT1 := Lib.hid (HPT.out k hlt)
        rw [HPT1.out] at p1
        clear HFB HFS HPT HPB HPE HCV HP0 HCT HV hr1
        generalize L.getD k 0 = x at *
        have p2 : pd (L.take k) * x ≤ 100000000000000 := by omega
        generalize hF1 : fac (k + 1) = F1 at *
        generalize hP1 : pd (L.take (k + 1)) = P1 at *
        have HF1 := Lib.hid hF1
        have HP1 := Lib.hid hP1
        clear hF1 hP1
        generalize fac k = F0 at *
        generalize pd (L.take k) = P0 at *
        go_wp2
        refine ⟨⟨k + 1, by omega, by go_num, by rw [HF1.out, HFS1.out], by rw [HP1.out, HPT1.out]⟩, ?_⟩
        first | (simp [intOf]; done) | (simp [intOf]; omega)
      · obtain rfl : k = L.length := by omega
        have f1 := HFB.out L.length hL16
        have p1 := HPB.out L.length
        rw [HPE.out] at p1 ⊢
        have HQ : Hid ((fac L.length).tdiv (pd L) = fac L.length / pd L) := Lib.hid (Int.tdiv_eq_ediv_of_nonneg (by omega))
        generalize pd L = P at *
        generalize fac L.length = F at *
        have m3 : (P == 0) = false := beq_eq_false_iff_ne.2 (by omega)
        have f2 := f1.2
        have f3 := f1.1
        have p2 := p1.1
        go_wp2_with fail
        go_ret2
        exact ⟨ret_ib (by rw [HCV.out, HQ.out]) rfl, hb1.trans (hb2.mono hb1.size)⟩
  · unfold hkV at HV
    rw [hr] at HV
    rw [hr]
    obtain ⟨A0, cap, rfl⟩ := h.shape
    clear h hr
    go_enter Try.func24, Try.ntmps24
    go_wp2_with (go_at_call 18; refine HV.out.mono ?_; rintro e w1 ⟨v1, vs1, rfl, hr1, hb1⟩)
    go_ret2
    exact ⟨rfl, hb1⟩
end Go.Proofs.Ytnlcainfkchieaa
