/- The model's reAreas: rows of areas by first parts; CountByArea, SumOfAreas. -/
import Derived.Test.YtnlmjeakdjmohaaArMathB
import Derived.Test.YtnlmjeakdjmohaaTOwn
import Derived.Test.YtnlmjeakdjmohaaPrS
namespace Go.Proofs.Ytnlmjeakdjmohaa
open Go.RowKit
set_option linter.unusedVariables false
theorem TRow.lit8 (w : World) (x : Int) (t1 t2 : TypeId) (h1 : t1 = 3) (h2 : t2 = 44) :
    TRow ((w.alloc (.cells #[.int .i64 x] t1)).alloc (.cells #[.slice (some ⟨w.heap.size, 0, none⟩) 1 1] t2)) w.heap.size ((w.alloc (.cells #[.int .i64 x] t1)).alloc (.cells #[.slice (some ⟨w.heap.size, 0, none⟩) 1 1] t2)).heap.size
      (.slice (some ⟨w.heap.size + 1, 0, none⟩) 1 1) [.slice (some ⟨w.heap.size, 0, none⟩) 1 1] [[x]] := by
  subst h1 h2
  have r1 : IRow (w.alloc (.cells #[.int .i64 x] 3)) w.heap.size (.slice (some ⟨w.heap.size, 0, none⟩) 1 1) [x] :=
    IRow.of_own (World.ownsRow_lit w #[.int .i64 x] 1 (Nat.le_refl _) (by simp [maxLen]) rfl) rfl rfl
  have r2 : VRow ((w.alloc (.cells #[.int .i64 x] 3)).alloc (.cells #[.slice (some ⟨w.heap.size, 0, none⟩) 1 1] 44)) (w.heap.size + 1) (.slice (some ⟨w.heap.size + 1, 0, none⟩) 1 1) [.slice (some ⟨w.heap.size, 0, none⟩) 1 1] := by
    have := World.ownsRow_lit (base := w.heap.size + 1) (e := 44) (size := 1) (w.alloc (.cells #[.int .i64 x] 3)) #[.slice (some ⟨w.heap.size, 0, none⟩) 1 1] 1 (by simp) (by simp [maxLen]) rfl
    rw [show (w.alloc (.cells #[.int .i64 x] 3)).heap.size = w.heap.size + 1 by simp] at this
    exact this
  refine ⟨rfl, r2.mono (by omega), fun k hk => (r2.blk k hk).2, fun j hj => ?_, fun j hj k hk => ?_, fun i j hi hj hne => ?_, fun j hj a b ha hb => ?_, Nat.le_refl _⟩
  · have : j = 0 := by simpa using hj
    subst this
    exact r1.alloc _
  · have : j = 0 := by simpa using hj
    subst this
    have h3 : some w.heap.size = some k := hk
    injection h3 with h3
    subst h3
    simp
    omega
  · simp at hi hj; omega
  · have : j = 0 := by simpa using hj
    subst this
    have h3 : some w.heap.size = some b := hb
    have h4 : some (w.heap.size + 1) = some a := ha
    injection h3 with h3
    injection h4 with h4
    omega
theorem hat_alloc8 {v v' : Value} {w : World} {o : Obj} (h : v'.ownBlock = v.ownBlock ∨ ∃ g, v'.ownBlock = some g ∧ (w.alloc o).heap.size ≤ g) : v'.ownBlock = v.ownBlock ∨ ∃ g, v'.ownBlock = some g ∧ w.heap.size ≤ g := by
  rcases h with h | ⟨g, h1, h2⟩
  · exact .inl h
  · exact .inr ⟨g, h1, by simp at h2; omega⟩
/-- a row of the table -/
theorem area_row {w : World} {B M k f : Nat} {l : Value} {vs : List Value} (h : TRow w B M l vs (arR k)) (hf : f ≤ k) : ∃ g c, vs.getD f NilS = .slice (some ⟨g, 0, none⟩) (f * f + 1) c ∧ IRow w B (.slice (some ⟨g, 0, none⟩) (f * f + 1) c) (arW f) ∧ g < M := by
  have hr := h.row f (by rw [arR_length]; omega)
  rw [arR_at hf] at hr
  obtain ⟨g, c, hv, h1, h2⟩ := hr.form' (arOk f).len (by omega)
  rw [hv] at hr
  refine ⟨g, c, hv, hr, h.rowM f (by rw [arR_length]; omega) g ?_⟩
  rw [hv]
  rfl
set_option maxRecDepth 100000 in
set_option maxHeartbeats 4000000 in
theorem reAreas_any (m : Nat) (hm : m ≤ 15) (w : World) : Calls Try.prog 93 #[.int .i64 (m : Int)] w (TabsNew w (arR m)) := by
  obtain ⟨j0, hj, hk0, hk1, hk2⟩ := info_parts intInfo
  have HL := Lib.hid (TRow.lit8 w (1 : Int) 3 44 rfl rfl)
  have HBL := Lib.hid (((Below.refl w.heap.size w).alloc (Nat.le_refl _) (.cells #[.int .i64 1] 3)).alloc (by simp) (.cells #[.slice (some ⟨w.heap.size, 0, none⟩) 1 1] 44))
  go_enter Try.func93, Try.ntmps93
  go_wp2_with fail
  generalize (w.alloc (.cells #[.int .i64 1] 3)).alloc (.cells #[.slice (some ⟨w.heap.size, 0, none⟩) 1 1] 44) = wL at *
  go_loopw [3, 4] (fun l i wr => ∃ (k M : Nat) (vs : List Value), k ≤ m ∧ i = .int .i64 ((k : Int) + 1) ∧ TRow wr w.heap.size M l vs (arR k) ∧ w.heap.size ≤ M ∧ Below w.heap.size w wr) (fun _ i _ => m + 1 - (intOf i).toNat)
  case atStart => exact ⟨0, _, _, Nat.zero_le _, rfl, HL.out, HBL.out.size, HBL.out⟩
  case round =>
    obtain ⟨k, M, vs, hk, rfl, htr, hM, hb⟩ := hrel
    clear HL HBL
    by_cases hlt : k < m
    · have hk14 : k ≤ 14 := by omega
      obtain ⟨kk, hkk⟩ : ∃ kk, kk = (k + 1) * (k + 1) := ⟨_, rfl⟩
      have hkk2 : kk ≤ 15 * 15 := by rw [hkk]; exact Nat.mul_le_mul (by omega) (by omega)
      obtain ⟨K, hK⟩ : ∃ K : Nat, (K : Int) = (k : Int) + 1 := ⟨k + 1, rfl⟩
      have ekk : (K : Int) * (K : Int) = (kk : Int) := by rw [hkk, hK, Int.natCast_mul]; rfl
      have mkk : 0 ≤ (K : Int) * (K : Int) ∧ (K : Int) * (K : Int) ≤ 225 := by rw [ekk]; omega
      have HK1 := Lib.hid hK
      have i1 : (K : Int) ≤ (m : Int) := by omega
      rw [← hK]
      obtain ⟨gA, cA, rfl, hgA1, hgA2, hAll⟩ := htr.form (arR_length k) (by omega)
      have HTR := Lib.hid htr
      have HB := Lib.hid hb
      have HALL := Lib.hid hAll
      have hMs := htr.size
      have hws := hb.size
      clear htr hb hAll
      obtain ⟨w0, rfl⟩ : ∃ w0 : World, w0 = wr := ⟨_, rfl⟩
      clear hK
      have hK : 1 ≤ K ∧ K ≤ 15 ∧ k < K ∧ K ≤ k + 1 := by have := HK1.out; omega
      have HKK := Lib.hid hkk
      clear hkk
      go_wp2_with (refine wpList_make_full _ rfl (.tmp 21) (.tmp 21) 44 rfl w0.heap.size 3 j0 (.int .i64 0) 1 Try.underlying44 hj hk0 hk1 .i64 .i64 _ _ (kk + 1) rfl rfl (by omega) (by omega) (by rw [hk2]; omega) (by unfold maxLen; omega) (Nat.le_refl _) ?_; intro w1 hown1 hgrow1)
      have HR0 : Hid (IRow w1 w0.heap.size (.slice (some ⟨w0.heap.size, 0, none⟩) (kk + 1) (kk + 1)) (arF (arR k) (k + 1) 0 (arZ k))) := Lib.hid (by
        refine IRow.of_own hown1 ?_ ?_
        · show _ = (arZ k).length
          rw [arZ, List.length_replicate, HKK.out]
        · show _ = (arZ k).map _
          rw [arZ, madeOne _ rfl, HKK.out]; simp)
      have HB1 : Hid (Below w0.heap.size w0 w1) := Lib.hid ((Below.refl _ _).grown hgrow1 (Nat.le_refl _) (by simp))
      clear hown1 hgrow1
      go_loopw [6] (fun i wz => ∃ f : Nat, f ≤ k + 1 ∧ i = .int .i64 ((f : Int) + 1) ∧ Hid (IRow wz w0.heap.size (.slice (some ⟨w0.heap.size, 0, none⟩) (kk + 1) (kk + 1)) (arF (arR k) (k + 1) f (arZ k))) ∧ Hid (Below w0.heap.size w0 wz)) (fun i _ => k + 2 - (intOf i).toNat)
      case atStart => exact ⟨0, by omega, rfl, HR0, HB1⟩
      case round =>
        obtain ⟨f, hf, rfl, HRF, HBF⟩ := hrel
        clear HR0 HB1
        by_cases hltf : f < k + 1
        · have htr := HTR.out.below HBF.out
          obtain ⟨g1, c1, hv1, hx1, hg1⟩ := area_row HTR.out (show f ≤ k by omega)
          obtain ⟨g2, c2, hv2, hx2, hg2⟩ := area_row HTR.out (show k - f ≤ k by omega)
          have hsqb : (k - f) * (k - f) ≤ 15 * 15 := Nat.mul_le_mul (by omega) (by omega)
          have hsqa : f * f ≤ 15 * 15 := Nat.mul_le_mul (by omega) (by omega)
          have hparts := sq_parts (show f ≤ k by omega)
          rw [← HKK.out] at hparts
          have a1 : wr.cell? ⟨gA, f, none⟩ = some (.slice (some ⟨g1, 0, none⟩) (f * f + 1) c1) := by
            rw [← hv1]; exact htr.out.cell (by rw [htr.len, arR_length]; omega)
          have HA2 : Hid (∀ wq, Below w0.heap.size w0 wq → wq.cell? ⟨gA, k - f, none⟩ = some (.slice (some ⟨g2, 0, none⟩) ((k - f) * (k - f) + 1) c2)) := Lib.hid fun wq hq => by
            have h3 := HTR.out.below hq
            rw [← hv2]; exact h3.out.cell (by rw [h3.len, arR_length]; omega)
          have HX1 := Lib.hid hx1
          have HX2 := Lib.hid hx2
          have HBX := Lib.hid fun j => arW_bd (show f ≤ 15 by omega) j
          have HBY := Lib.hid fun j => arW_bd (show k - f ≤ 15 by omega) j
          have HEN := Lib.hid fun a b ha hb x hx p => entry_bd hk14 (show f ≤ k by omega) (a := a) (b := b) ha hb (x := x) hx p
          have HLX : Hid ((arW f).length = f * f + 1) := Lib.hid (arOk f).len
          have HLY : Hid ((arW (k - f)).length = (k - f) * (k - f) + 1) := Lib.hid (arOk (k - f)).len
          have HSF : Hid (arF (arR k) (k + 1) (f + 1) (arZ k) = arA (2 * f + 1) (arW f) (arW (k - f)) (f * f + 1) (arF (arR k) (k + 1) f (arZ k))) := Lib.hid (by
            rw [arF, show k + 1 - 1 - f = k - f by omega, arR_at (show f ≤ k by omega), arR_at (show k - f ≤ k by omega), (arOk f).len])
          have HLF : Hid ((arF (arR k) (k + 1) f (arZ k)).length = kk + 1) := Lib.hid (by rw [arF_len, arZ, List.length_replicate, HKK.out])
          obtain ⟨d, hd⟩ : ∃ d, d = k - f := ⟨_, rfl⟩
          have hd2 : f + d ≤ k ∧ k ≤ f + d := by omega
          have ed : (K : Int) - ((f : Int) + 1) = (d : Int) := by omega
          rw [← hd] at HA2 HX2 HBY HEN HLY HSF hparts hsqb
          clear hd
          generalize arF (arR k) (k + 1) f (arZ k) = LF at *
          generalize arW f = xs at *
          generalize arW d = ys at *
          generalize f * f = n1 at *
          generalize d * d = n2 at *
          have i2 : (f : Int) + 1 ≤ (K : Int) := by omega
          have i3 : (f : Int) < (k : Int) + 1 := by omega
          have i4 : (d : Int) < (k : Int) + 1 := by omega
          clear htr hx1 hx2 hv1 hv2
          go_wp2_with fail
          go_loopw [34] (fun i wz => ∃ a : Nat, a ≤ n1 + 1 ∧ i = .int .i64 (a : Int) ∧ Hid (IRow wz w0.heap.size (.slice (some ⟨w0.heap.size, 0, none⟩) (kk + 1) (kk + 1)) (arA (2 * f + 1) xs ys a LF)) ∧ Hid (Below w0.heap.size w0 wz)) (fun i _ => n1 + 1 - (intOf i).toNat)
          case atStart => exact ⟨0, by omega, rfl, HRF, HBF⟩
          case round =>
            obtain ⟨a, ha, rfl, HRA, HBA⟩ := hrel
            clear HRF HBF a1
            by_cases hlta : a < n1 + 1
            · have c0 := (HX1.out.below HBA.out).cell (j := a) (by rw [HLX.out]; omega)
              have a2 := HA2.out _ HBA.out
              have bx := HBX.out a
              have i5 : (a : Int) < (n1 : Int) + 1 := by omega
              have HSA : Hid (∀ L, arA (2 * f + 1) xs ys (a + 1) L = arB (2 * f + 1 + a) (xs.getD a 0) ys (n2 + 1) (arA (2 * f + 1) xs ys a L)) := Lib.hid fun L => by rw [arA, HLY.out]
              have HLA : Hid ((arA (2 * f + 1) xs ys a LF).length = kk + 1) := Lib.hid (by rw [arA_len, HLF.out])
              have HEA := Lib.hid fun b hb p => HEN.out a b (by omega) hb (xs.getD a 0) bx p
              have HSAL := Lib.hid (HSA.out LF)
              generalize arA (2 * f + 1) xs ys a LF = LA at *
              generalize xs.getD a 0 = x at *
              go_wp2_with fail
              go_loopw [46] (fun i wz => ∃ b : Nat, b ≤ n2 + 1 ∧ i = .int .i64 (b : Int) ∧ Hid (IRow wz w0.heap.size (.slice (some ⟨w0.heap.size, 0, none⟩) (kk + 1) (kk + 1)) (arB (2 * f + 1 + a) x ys b LA)) ∧ Hid (Below w0.heap.size w0 wz)) (fun i _ => n2 + 1 - (intOf i).toNat)
              case atStart => exact ⟨0, by omega, rfl, HRA, HBA⟩
              case round =>
                obtain ⟨b, hb, rfl, HRB, HBB⟩ := hrel
                clear HRA HBA c0 a2
                by_cases hltb : b < n2 + 1
                · have c0 := (HX2.out.below HBB.out).cell (j := b) (by rw [HLY.out]; omega)
                  obtain ⟨p, hp⟩ : ∃ p, p = 2 * f + 1 + a + b := ⟨_, rfl⟩
                  have hpl : p < kk + 1 := by omega
                  have hlen : (arB (2 * f + 1 + a) x ys b LA).length = kk + 1 := by rw [arB_len, HLA.out]
                  have d0 := HRB.out.cell (j := p) (by rw [hlen]; omega)
                  have f0 := HRB.out.free p
                  have by1 := HBY.out b
                  have be := HEA.out b (by omega) p
                  have bm := mul_9 bx by1
                  have hst := (HRB.out.set p ((arB (2 * f + 1 + a) x ys b LA).getD p 0 + x * ys.getD b 0)).1
                  have HST : Hid (IRow (wr.setCell ⟨w0.heap.size, p, none⟩ (.int .i64 ((arB (2 * f + 1 + a) x ys b LA).getD p 0 + x * ys.getD b 0))) w0.heap.size (.slice (some ⟨w0.heap.size, 0, none⟩) (kk + 1) (kk + 1)) (arB (2 * f + 1 + a) x ys (b + 1) LA)) := Lib.hid (by
                    rw [arB, upd, ← hp]; exact hst)
                  have HBC := Lib.hid (HBB.out.setCell (p := ⟨w0.heap.size, p, none⟩) (Nat.le_refl _) (.int .i64 ((arB (2 * f + 1 + a) x ys b LA).getD p 0 + x * ys.getD b 0)))
                  have ep : (a : Int) + 2 * ((f : Int) + 1) - 1 + (b : Int) = (p : Int) := by omega
                  have HPP := Lib.hid hp
                  clear hp
                  have i6 : (b : Int) < (n2 : Int) + 1 := by omega
                  have i7 : (p : Int) < (kk : Int) + 1 := by omega
                  clear hst HRB HBB hlen
                  generalize (arB (2 * f + 1 + a) x ys b LA).getD p 0 = e at *
                  generalize ys.getD b 0 = y at *
                  go_wp2_with fail
                  go_roundw
                  case rel => exact ⟨b + 1, by omega, by go_num, HST, HBC⟩
                  case measure => first | (simp [intOf]; done) | (simp [intOf]; omega)
                · have HK : Hid (b = n2 + 1) := by unfold Hid; omega
                  have HRB2 : Hid (IRow wr w0.heap.size (.slice (some ⟨w0.heap.size, 0, none⟩) (kk + 1) (kk + 1)) (arA (2 * f + 1) xs ys (a + 1) LF)) := Lib.hid (by
                    have h5 := HRB.out
                    rw [HK.out] at h5
                    rw [HSAL.out]
                    exact h5)
                  clear HRB
                  have hrb : decide ((b : Int) < (n2 : Int) + 1) = false := decide_eq_false (by omega)
                  go_wp2_with fail
                  go_roundw
                  case rel => exact ⟨a + 1, by omega, by go_num, HRB2, HBB⟩
                  case measure => first | (simp [intOf]; done) | (simp [intOf]; omega)
            · have HK : Hid (a = n1 + 1) := by unfold Hid; omega
              have HRA2 : Hid (IRow wr w0.heap.size (.slice (some ⟨w0.heap.size, 0, none⟩) (kk + 1) (kk + 1)) (arF (arR k) (k + 1) (f + 1) (arZ k))) := Lib.hid (by
                have h5 := HRA.out
                rw [HK.out] at h5
                rw [HSF.out]
                exact h5)
              clear HRA
              have hrb : decide ((a : Int) < (n1 : Int) + 1) = false := decide_eq_false (by omega)
              go_wp2_with fail
              go_roundw
              case rel => exact ⟨f + 1, by omega, by go_num, HRA2, HBA⟩
              case measure => first | (simp [intOf]; done) | (simp [intOf]; omega)
        · have HK : Hid (f = k + 1) := by unfold Hid; omega
          have ht1 := HTR.out.below HBF.out
          have hr1 : IRow wr M (.slice (some ⟨w0.heap.size, 0, none⟩) (kk + 1) (kk + 1)) (arW (k + 1)) := by
            have h5 := HRF.out
            rw [HK.out] at h5
            rw [arW_succ]
            exact h5.mono hMs
          have hws2 : w.heap.size ≤ wr.heap.size := Nat.le_trans hws HBF.out.size
          have HBW := Lib.hid (HB.out.trans (HBF.out.mono hws))
          have hlen : vs.length = k + 1 := by rw [ht1.len, arR_length]
          have HSU : Hid (arR (k + 1) = arR k ++ [arW (k + 1)]) := Lib.hid (by rw [arW_succ]; rfl)
          have hkf : ¬ (f : Int) + 1 ≤ (K : Int) := by omega
          clear HRF HTR
          go_wp2_with (at_builtin; refine wpList_pushV (.tmp 68) (.tmp 70) rfl rfl w.heap.size _ vs rfl (ht1.out.alloc _) wr.heap.size (.slice (some ⟨w0.heap.size, 0, none⟩) (kk + 1) (kk + 1)) rfl (by simp) rfl (by omega) (by simp; omega) ?_; intro v3 w3 hr3 hg3 hat3)
          have hgl := grown_alloc_left hg3
          have HT3 := Lib.hid (ht1.push hr1 hM hr3 hgl (hat_alloc8 hat3))
          have HB3 := Lib.hid (HBW.out.grown hgl hws2 (fun q hq => (ht1.outB q hq).1))
          have hz3 := HB3.out.size
          clear ht1 hr1 hr3 hg3 hat3 hgl
          go_roundw
          case rel => exact ⟨k + 1, w3.heap.size, _, by omega, by rw [HK1.out]; go_num, by rw [HSU.out]; exact HT3.out, hz3, HB3.out⟩
          case measure => first | (simp [intOf]; done) | (simp [intOf]; omega)
    · obtain rfl : k = m := by omega
      have HTR := Lib.hid (htr.mono (Nat.le_refl _) htr.size (Nat.le_refl _))
      have HB := Lib.hid hb
      clear htr hb
      have i1 : ¬ (k : Int) + 1 ≤ (k : Int) := by omega
      go_wp2_with fail
      go_ret
      exact ⟨_, vs, rfl, HTR.out, HB.out⟩
end Go.Proofs.Ytnlmjeakdjmohaa
