/- The model's kiMoments. -/
import Derived.Test.YtnmmgpmhpjjehaaMoMath
import Derived.Test.YtnmmgpmhpjjehaaInList
namespace Go.Proofs.Ytnmmgpmhpjjehaa
open Go.RowKit
set_option linter.unusedVariables false
theorem wp_nameM {P : Program} {c : Code} {Q : Exit → Act → World → Prop} {a : Act} {w : World} (S : World → Prop) (h : S w) (k : ∀ W, S W → c.wp P Q a W) : c.wp P Q a w := k w h
theorem irow_apart {w w' : World} {B : Nat} {v : Value} {xs : List Int} {r : Option Nat} (h : IRow w B v xs) (hg : w.grownBy w' r) (hne : ∀ k, v.ownBlock = some k → some k ≠ r) : IRow w' B v xs :=
  World.ownsRow.kept h hg (by
    cases e : v.ownBlock with
    | none => exact .inl rfl
    | some k => exact .inr (fun e2 => hne k e e2))
theorem mo_small {K : Nat} {F D : Nat → Int} (hF : ∀ i, i < K → -5 ≤ F i ∧ F i ≤ 5) (hD : ∀ i, i < K → -5 ≤ D i ∧ D i ≤ 5) {k : Nat} (hk : k ≤ 8) (h : Nat) : -214358881 ≤ mo K F D k h ∧ mo K F D k h ≤ 214358881 := by
  have h1 := mo_bd hF hD k h
  have h2 : 11 ^ k ≤ 11 ^ 8 := Nat.pow_le_pow_right (by omega) hk
  have h3 : (11 : Nat) ^ 8 = 214358881 := by decide
  rw [h3] at h2
  have h4 : ((11 ^ k : Nat) : Int) ≤ 214358881 := Int.ofNat_le.2 h2
  omega
theorem moP_small {K : Nat} {F D : Nat → Int} (hF : ∀ i, i < K → -5 ≤ F i ∧ F i ≤ 5) (hD : ∀ i, i < K → -5 ≤ D i ∧ D i ≤ 5) {k : Nat} (hk : k ≤ 8) (j i : Nat) : -2357947691 ≤ moP K F D k j i ∧ moP K F D k j i ≤ 2357947691 := by
  have h1 := moP_bd hF hD k j i
  have h2 : 11 ^ (k + 1) ≤ 11 ^ 9 := Nat.pow_le_pow_right (by omega) (by omega)
  have h3 : (11 : Nat) ^ 9 = 2357947691 := by decide
  rw [h3] at h2
  have h4 : ((11 ^ (k + 1) : Nat) : Int) ≤ 2357947691 := Int.ofNat_le.2 h2
  omega
def lenV : Value → Nat
  | .slice _ n _ => n
  | _ => 0
/-- what stands of the levels in a world -/
def LvAt (b K q1 o1 c1 q2 o2 c2 : Nat) (F D : Nat → Int) (X : World) : Prop :=
  X.cell? ⟨b, 0, none⟩ = some (.slice (some ⟨q1, o1, none⟩) K c1) ∧ X.cell? ⟨b, 1, none⟩ = some (.slice (some ⟨q2, o2, none⟩) K c2) ∧
  (∀ j, j < K → X.cell? ⟨q1, o1 + j, none⟩ = some (.int .i64 (F j))) ∧ ∀ j, j < K → X.cell? ⟨q2, o2 + j, none⟩ = some (.int .i64 (D j))
set_option maxRecDepth 100000 in
set_option maxHeartbeats 4000000 in
theorem kiMoments_core (K q1 o1 c1 q2 o2 c2 N : Nat) (F D : Nat → Int) (w : World) (hK : K ≤ 5) (hN : 1 ≤ N ∧ N ≤ 8) (hq1 : q1 < w.heap.size) (hq2 : q2 < w.heap.size)
    (hcF : ∀ j, j < K + 1 → w.cell? ⟨q1, o1 + j, none⟩ = some (.int .i64 (F j))) (hcD : ∀ j, j < K + 1 → w.cell? ⟨q2, o2 + j, none⟩ = some (.int .i64 (D j)))
    (hF : ∀ i, i < K + 1 → -5 ≤ F i ∧ F i ≤ 5) (hD : ∀ i, i < K + 1 → -5 ≤ D i ∧ D i ≤ 5) :
    Calls Try.prog 88 #[.agg #[.slice (some ⟨q1, o1, none⟩) (K + 1) c1, .slice (some ⟨q2, o2, none⟩) (K + 1) c2], .int .i64 (N : Int)] w (IntsNew w (fr (fun k => mo (K + 1) F D k 0) N)) := by
  obtain ⟨i0, hi0, hz0, hz1, hz2⟩ := info_parts intInfo
  obtain ⟨W, hW⟩ : ∃ W, W = w.alloc (.cells #[.slice (some ⟨q1, o1, none⟩) (K + 1) c1, .slice (some ⟨q2, o2, none⟩) (K + 1) c2] 45) := ⟨_, rfl⟩
  have hz : W.heap.size = w.heap.size + 1 := by rw [hW]; simp
  have hb : Below w.heap.size w W := by rw [hW]; exact (Below.refl _ _).alloc (Nat.le_refl _) _
  have b0 : W.cell? ⟨w.heap.size, 0, none⟩ = some (.slice (some ⟨q1, o1, none⟩) (K + 1) c1) := by rw [hW]; simp [go_sem]
  have b1 : W.cell? ⟨w.heap.size, 1, none⟩ = some (.slice (some ⟨q2, o2, none⟩) (K + 1) c2) := by rw [hW]; simp [go_sem]
  have HX : Hid (∀ X, Below W.heap.size W X → LvAt w.heap.size (K + 1) q1 o1 c1 q2 o2 c2 F D X) := Lib.hid fun X hX =>
    ⟨(hX.cell (p := ⟨w.heap.size, 0, none⟩) (show w.heap.size < W.heap.size by omega)).trans b0,
     (hX.cell (p := ⟨w.heap.size, 1, none⟩) (show w.heap.size < W.heap.size by omega)).trans b1,
     fun j hj => (hX.cell (p := ⟨q1, o1 + j, none⟩) (show q1 < W.heap.size by omega)).trans ((hb.cell (p := ⟨q1, o1 + j, none⟩) hq1).trans (hcF j hj)),
     fun j hj => (hX.cell (p := ⟨q2, o2 + j, none⟩) (show q2 < W.heap.size by omega)).trans ((hb.cell (p := ⟨q2, o2 + j, none⟩) hq2).trans (hcD j hj))⟩
  have HB := Lib.hid hb
  have HW := Lib.hid hW
  have HZ := Lib.hid hz
  have HFD := Lib.hid (And.intro hF hD)
  clear hz hb b0 b1 hq1 hq2 hcF hcD hF hD hW
  go_enter Try.func88, Try.ntmps88
  go_wp2_with (rw [← HW.out]; refine wpList_make_full _ rfl (.tmp 14) (.tmp 14) 40 rfl W.heap.size 3 i0 (.int .i64 0) 1 Try.underlying40 hi0 hz0 hz1 .i64 .i64 _ _ (K + 1 + 1) rfl rfl (by omega) (by omega) (by rw [hz2]; omega) (by unfold maxLen; omega) (Nat.le_refl _) ?_; intro w1 hown1 hgrow1; have hrow1 : IRow w1 W.heap.size (.slice (some ⟨W.heap.size, 0, none⟩) (K + 1 + 1) (K + 1 + 1)) (List.replicate (K + 1 + 1) 0) := (IRow.of_own hown1 (by simp) (by rw [madeOne _ rfl]; simp)); have hb1 : Below W.heap.size W w1 := ((Below.refl _ _).grown hgrow1 (Nat.le_refl _) (by simp)); have hc1 := hrow1.cell (j := 0) (by simp); have hf1 := hrow1.free 0; have HST := Lib.hid (hrow1.set 0 1).1; clear hown1 hgrow1)
  have HR0 : Hid (IRow ((w1.setCell ⟨W.heap.size, 0, none⟩ (.int .i64 1)).alloc (.cells #[.int .i64 1] 3)) W.heap.size (.slice (some ⟨W.heap.size, 0, none⟩) (K + 1 + 1) (K + 1 + 1)) (fr (fun j => mo (K + 1) F D 0 j) (K + 1 + 1))) := Lib.hid (by rw [← mo_first]; exact HST.out.alloc _)
  have HO0 : Hid (IRow ((w1.setCell ⟨W.heap.size, 0, none⟩ (.int .i64 1)).alloc (.cells #[.int .i64 1] 3)) w1.heap.size (.slice (some ⟨w1.heap.size, 0, none⟩) 1 1) (fr (fun j => mo (K + 1) F D j 0) 1)) := Lib.hid (by
    have := World.ownsRow_lit (base := w1.heap.size) (e := 3) (size := 1) (w1.setCell ⟨W.heap.size, 0, none⟩ (.int .i64 1)) #[.int .i64 1] 1 (by simp) (by simp [maxLen]) rfl
    have e : (w1.setCell ⟨W.heap.size, 0, none⟩ (.int .i64 1)).heap.size = w1.heap.size := by simp
    rw [e] at this
    exact IRow.of_own this (by simp [fr]) (by simp [fr, mo]))
  have HB0 : Hid (Below W.heap.size W ((w1.setCell ⟨W.heap.size, 0, none⟩ (.int .i64 1)).alloc (.cells #[.int .i64 1] 3))) := Lib.hid ((hb1.setCell (p := ⟨W.heap.size, 0, none⟩) (Nat.le_refl _) (.int .i64 1)).alloc (by simp; have := hb1.size; omega) _)
  have HS0 : Hid (W.heap.size < w1.heap.size) := Lib.hid (hrow1.blk _ rfl).2
  clear hrow1 hb1 hc1 hf1 HST
  go_loopw [6, 7] (fun v o wq => ∃ (k g : Nat), k + 1 ≤ N ∧ v = .slice (some ⟨g, 0, none⟩) (K + 1 + 1) (K + 1 + 1) ∧ IRow wq W.heap.size (.slice (some ⟨g, 0, none⟩) (K + 1 + 1) (K + 1 + 1)) (fr (fun j => mo (K + 1) F D k j) (K + 1 + 1)) ∧ IRow wq W.heap.size o (fr (fun j => mo (K + 1) F D j 0) (k + 1)) ∧ o.ownBlock ≠ some g ∧ Below W.heap.size W wq) (fun _ o _ => N - lenV o)
  case atStart => exact ⟨0, W.heap.size, by omega, rfl, HR0.out, HO0.out.mono (Nat.le_of_lt HS0.out), (by intro e; have := HS0.out; simp [Value.ownBlock] at e; omega), HB0.out⟩
  case round =>
    obtain ⟨k, g, hk, rfl, hrow, hout, hne, hb⟩ := hrel
    clear HR0 HO0 HB0 HS0
    obtain ⟨go, co, rfl, hgo1, hgo2⟩ := hout.form' (fr_length _ _) (by omega)
    by_cases hlk : k + 1 < N
    · obtain ⟨w0, rfl⟩ : ∃ w0, w0 = wr := ⟨_, rfl⟩
      have hgl := (hrow.blk g rfl).2
      have hsz0 := hb.size
      go_wp2_with (refine wpList_make_full _ rfl (.tmp 24) (.tmp 24) 40 rfl w0.heap.size 3 i0 (.int .i64 0) 1 Try.underlying40 hi0 hz0 hz1 .i64 .i64 _ _ (K + 1 + 1) rfl rfl (by omega) (by omega) (by rw [hz2]; omega) (by unfold maxLen; omega) (Nat.le_refl _) ?_; intro w2 hown2 hgrow2)
      have hrow2 : IRow w2 w0.heap.size (.slice (some ⟨w0.heap.size, 0, none⟩) (K + 1 + 1) (K + 1 + 1)) (fr (moP (K + 1) F D k 0) (K + 1 + 1)) :=
        IRow.of_own hown2 (by simp [fr_length]) (by rw [← moP_zero, madeOne _ rfl]; simp)
      have hb2 : Below w0.heap.size w0 w2 := (Below.refl _ _).grown hgrow2 (Nat.le_refl _) (by simp)
      clear hown2 hgrow2
      have HR2 := Lib.hid hrow2
      have HB2 := Lib.hid hb2
      have HOLD := Lib.hid hrow
      have HOUT := Lib.hid hout
      have HBW := Lib.hid hb
      have HNE := Lib.hid (And.intro hgo1 hgo2)
      have HXX : Hid (∀ X, Below w0.heap.size w0 X → LvAt w.heap.size (K + 1) q1 o1 c1 q2 o2 c2 F D X ∧ ∀ j, j < K + 1 + 1 → X.cell? ⟨g, j, none⟩ = some (.int .i64 (mo (K + 1) F D k j))) := Lib.hid fun X hX =>
        ⟨HX.out X (HBW.out.trans (hX.mono hsz0)), fun j hj => by
          have := (hrow.below hX).cell (j := j) (by rw [fr_length]; omega)
          rw [fr_get _ _ _ (by omega)] at this
          exact this⟩
      have HSM : Hid (∀ i, -214358881 ≤ mo (K + 1) F D k i ∧ mo (K + 1) F D k i ≤ 214358881) := Lib.hid fun i => mo_small HFD.out.1 HFD.out.2 (by omega) i
      have HSP : Hid (∀ j i, -2357947691 ≤ moP (K + 1) F D k j i ∧ moP (K + 1) F D k j i ≤ 2357947691) := Lib.hid fun j i => moP_small HFD.out.1 HFD.out.2 (by omega) j i
      clear hrow2 hb2 hrow hb hout hgo1 hgo2 hne
      go_loopw [9] (fun i wz => ∃ p : Nat, p ≤ K + 1 ∧ i = .int .i64 (p : Int) ∧ IRow wz w0.heap.size (.slice (some ⟨w0.heap.size, 0, none⟩) (K + 1 + 1) (K + 1 + 1)) (fr (moP (K + 1) F D k p) (K + 1 + 1)) ∧ Below w0.heap.size w0 wz) (fun i _ => K + 1 - (intOf i).toNat)
      case atStart => exact ⟨0, Nat.zero_le _, rfl, HR2.out, HB2.out⟩
      case round =>
        obtain ⟨h, hh, rfl, hrow, hb⟩ := hrel
        clear HR2 HB2
        by_cases hlh : h < K + 1
        · obtain ⟨⟨b0, b1, hcF, hcD⟩, hcN⟩ := HXX.out _ hb
          have n0 := hcN h (by omega)
          have f0 := hcF h hlh
          have d1 := hrow.cell (j := h) (by rw [fr_length]; omega)
          have d2 := hrow.cell (j := h + 1) (by rw [fr_length]; omega)
          rw [fr_get _ _ _ (by omega)] at d1 d2
          have r1 := hrow.free h
          have m1 : -1071794405 ≤ F h * mo (K + 1) F D k h ∧ F h * mo (K + 1) F D k h ≤ 1071794405 := by
            have := mul_abs (A := 5) (B := 214358881) (HFD.out.1 h hlh) (HSM.out h)
            omega
          have m0 := HSM.out h
          have y1 := HSP.out h h
          have y2 := HSP.out h (h + 1)
          have HP0 : Hid (∀ p, h = p + 1 → wr.cell? ⟨w0.heap.size, p, none⟩ = some (.int .i64 (moP (K + 1) F D k h p))) := Lib.hid fun p hp => by
            have := hrow.cell (j := p) (by rw [fr_length]; omega)
            rw [fr_get _ _ _ (by omega)] at this
            exact this
          have HL0 : Hid (h = 0 → ((fr (moP (K + 1) F D k h) (K + 1 + 1)).set h (moP (K + 1) F D k h h + F h * mo (K + 1) F D k h)).set (h + 1) (moP (K + 1) F D k h (h + 1) + mo (K + 1) F D k h) = fr (moP (K + 1) F D k (h + 1)) (K + 1 + 1)) := Lib.hid fun h0 => by
            rw [← moP_here _ _ _ _ _ hlh, ← moP_up _ _ _ _ _ hlh]
            subst h0
            exact moP_set0 _ _ _ _ _
          have HL1 : Hid (∀ p, h = p + 1 → (((fr (moP (K + 1) F D k h) (K + 1 + 1)).set h (moP (K + 1) F D k h h + F h * mo (K + 1) F D k h)).set (h + 1) (moP (K + 1) F D k h (h + 1) + mo (K + 1) F D k h)).set p (moP (K + 1) F D k h p + D p * mo (K + 1) F D k h) = fr (moP (K + 1) F D k (h + 1)) (K + 1 + 1)) := Lib.hid fun p hp => by
            rw [← moP_here _ _ _ _ _ hlh, ← moP_up _ _ _ _ _ hlh]
            subst hp
            rw [← moP_down _ _ _ _ _ (by omega)]
            exact moP_set _ _ _ _ _ _
          have HST := Lib.hid (hrow.set h (moP (K + 1) F D k h h + F h * mo (K + 1) F D k h)).1
          have HBZ := Lib.hid hb
          have i1 : (h : Int) < (K : Int) + 1 := by omega
          have i2 : (h : Int) < (K : Int) + 1 + 1 := by omega
          have i3 : (h : Int) + 1 < (K : Int) + 1 + 1 := by omega
          have i4 : 0 ≤ (h : Int) + 1 := by omega
          clear hrow hb hcF hcD hcN b1
          generalize fr (moP (K + 1) F D k h) (K + 1 + 1) = L at *
          generalize moP (K + 1) F D k h h = e1 at *
          generalize moP (K + 1) F D k h (h + 1) = e2 at *
          generalize F h = a at *
          have HN0 := Lib.hid n0
          obtain ⟨c, hc⟩ : ∃ c, c = mo (K + 1) F D k h := ⟨_, rfl⟩
          rw [← hc] at n0 m1 m0 HST HL0 HL1
          have HC := Lib.hid hc
          clear hc
          go_wp2_with fail
          go_region
          go_wp2_with fail
          refine wp_nameM (fun X => IRow X w0.heap.size (.slice (some ⟨w0.heap.size, 0, none⟩) (K + 1 + 1) (K + 1 + 1)) (L.set h (e1 + a * c)) ∧ Below w0.heap.size w0 X ∧ X.cell? ⟨w0.heap.size, h + 1, none⟩ = some (.int .i64 e2) ∧ ∀ p, h = p + 1 → X.cell? ⟨w0.heap.size, p, none⟩ = some (.int .i64 (moP (K + 1) F D k h p)))
            ⟨HST.out, (HBZ.out.setCell (p := ⟨w0.heap.size, h, none⟩) (Nat.le_refl _) _).drew, (World.cell?_setCell_other _ _ _ _ (by simp)).trans d2, fun p hp => (World.cell?_setCell_other _ _ _ _ (by intro e; injection e with e1 e2; omega)).trans (HP0.out p hp)⟩ ?_
          rintro X ⟨hrow, hb, d2', hp0⟩
          clear n0 f0 d1 d2 r1 b0 HP0 HST HBZ
          obtain ⟨⟨b0, b1, hcF, hcD⟩, hcN⟩ := HXX.out _ hb
          have n0 := hcN h (by omega)
          rw [← HC.out] at n0
          have r2 := hrow.free (h + 1)
          have HST := Lib.hid (hrow.set (h + 1) (e2 + c)).1
          have HBZ := Lib.hid hb
          have HP0 := Lib.hid hp0
          clear hrow hb hcF hcD hcN b1 b0 hp0
          go_region
          by_cases hpos : 0 < (h : Int)
          · obtain ⟨p, HPE⟩ : ∃ p, Hid (h = p + 1) := ⟨h - 1, Lib.hid (by omega)⟩
            go_wp2_with fail
            refine wp_nameM (fun X => IRow X w0.heap.size (.slice (some ⟨w0.heap.size, 0, none⟩) (K + 1 + 1) (K + 1 + 1)) ((L.set h (e1 + a * c)).set (h + 1) (e2 + c)) ∧ Below w0.heap.size w0 X ∧ X.cell? ⟨w0.heap.size, p, none⟩ = some (.int .i64 (moP (K + 1) F D k h p)))
              ⟨HST.out, (HBZ.out.setCell (p := ⟨w0.heap.size, h + 1, none⟩) (Nat.le_refl _) _).drew, (World.cell?_setCell_other _ _ _ _ (by intro e; injection e with e1 e2; have := HPE.out; omega)).trans (HP0.out p HPE.out)⟩ ?_
            clear n0 d2' r2 HP0 HST HBZ
            rintro X2 ⟨hrow, hb, hp0⟩
            have hp := HPE.out
            obtain ⟨⟨b0, b1, hcF, hcD⟩, hcN⟩ := HXX.out _ hb
            have n0 := hcN h (by omega)
            rw [← HC.out] at n0
            have f1 := hcD p (by omega)
            have HL := Lib.hid (HL1.out p hp)
            have m3 : -1071794405 ≤ D p * c ∧ D p * c ≤ 1071794405 := by
              have := mul_abs (A := 5) (B := 214358881) (HFD.out.2 p (by omega)) m0
              omega
            have y3 := HSP.out h p
            have r3 := hrow.free p
            have HST := Lib.hid (hrow.set p (moP (K + 1) F D k h p + D p * c)).1
            have HBZ := Lib.hid hb
            have i5 : (p : Int) < (K : Int) + 1 := by omega
            have i6 : (p : Int) < (K : Int) + 1 + 1 := by omega
            clear hrow hb hcF hcD hcN b0 HL0 HL1 HXX HOLD HSM HSP
            generalize moP (K + 1) F D k h p = e0 at *
            generalize D p = dd at *
            clear HPE
            subst hp
            clear hpos
            have i7 : (0 : Int) < (p : Int) + 1 := by omega
            go_region
            go_wp2_with fail
            go_roundw
            case rel => exact ⟨p + 1 + 1, by omega, by go_num, by rw [← HL.out]; exact HST.out, (HBZ.out.setCell (p := ⟨w0.heap.size, p, none⟩) (Nat.le_refl _) _).drew⟩
            case measure => first | (simp [intOf]; done) | (simp [intOf]; omega)
          · have HL := Lib.hid (HL0.out (by omega))
            clear n0 d2' r2 HP0 HL0 HL1
            go_wp2_with fail
            go_roundw
            case rel => exact ⟨h + 1, by omega, by go_num, by rw [← HL.out]; exact HST.out, (HBZ.out.setCell (p := ⟨w0.heap.size, h + 1, none⟩) (Nat.le_refl _) _).drew⟩
            case measure => first | (simp [intOf]; done) | (simp [intOf]; omega)
        · obtain rfl : h = K + 1 := by omega
          obtain ⟨⟨b0, b1, hcF, hcD⟩, hcN⟩ := HXX.out _ hb
          have n0 := hcN (K + 1) (by omega)
          have f1 := hcD K (by omega)
          have d1 := hrow.cell (j := K) (by rw [fr_length]; omega)
          rw [fr_get _ _ _ (by omega)] at d1
          have r1 := hrow.free K
          have m1 : -1071794405 ≤ D K * mo (K + 1) F D k (K + 1) ∧ D K * mo (K + 1) F D k (K + 1) ≤ 1071794405 := by
            have := mul_abs (A := 5) (B := 214358881) (HFD.out.2 K (by omega)) (HSM.out (K + 1))
            omega
          have m0 := HSM.out (K + 1)
          have y1 := HSP.out (K + 1) K
          have hst := (hrow.set K (moP (K + 1) F D k (K + 1) K + D K * mo (K + 1) F D k (K + 1))).1
          have hl : (fr (moP (K + 1) F D k (K + 1)) (K + 1 + 1)).set K (moP (K + 1) F D k (K + 1) K + D K * mo (K + 1) F D k (K + 1)) = fr (fun j => mo (K + 1) F D (k + 1) j) (K + 1 + 1) := moP_fin (K + 1) F D k (by omega)
          rw [hl] at hst
          have HST := Lib.hid hst
          have HBZ := Lib.hid hb
          have hlt0 := (hrow.blk _ rfl).2
          have HLT := Lib.hid hlt0
          have i2 : (K : Int) < (K : Int) + 1 + 1 := by omega
          have i3 : (K : Int) + 1 < (K : Int) + 1 + 1 := by omega
          have HPU := Lib.hid (fr_snoc (fun j => mo (K + 1) F D j 0) (k + 1))
          have HM0 : Hid (-214358881 ≤ mo (K + 1) F D (k + 1) 0 ∧ mo (K + 1) F D (k + 1) 0 ≤ 214358881) := Lib.hid (mo_small HFD.out.1 HFD.out.2 (by omega) 0)
          clear hrow hb hcF hcD hcN b0 hl hst HXX HOLD HSM HSP hlt0
          generalize moP (K + 1) F D k (K + 1) K = e1 at *
          generalize D K = a at *
          generalize mo (K + 1) F D k (K + 1) = c at *
          go_wp2_with fail
          go_region
          generalize hX : (wr.setCell ⟨w0.heap.size, K, none⟩ (.int .i64 (e1 + a * c))).drew = X
          have hrX : IRow X w0.heap.size (.slice (some ⟨w0.heap.size, 0, none⟩) (K + 1 + 1) (K + 1 + 1)) (fr (fun j => mo (K + 1) F D (k + 1) j) (K + 1 + 1)) := by rw [← hX]; exact HST.out
          have hbX : Below w0.heap.size w0 X := by rw [← hX]; exact (HBZ.out.setCell (p := ⟨w0.heap.size, K, none⟩) (Nat.le_refl _) _).drew
          have hoX := HOUT.out.below hbX
          have c0 := hrX.cell (j := 0) (by rw [fr_length]; omega)
          rw [fr_get _ _ _ (by omega)] at c0
          have hszX : W.heap.size ≤ X.heap.size := Nat.le_trans hsz0 hbX.size
          have hszL : w0.heap.size ≤ X.heap.size := hbX.size
          have HRX := Lib.hid hrX
          have HBX := Lib.hid hbX
          have HOX := Lib.hid hoX
          have hlenX : (fr (fun j => mo (K + 1) F D j 0) (k + 1)).length ≤ 1099511627776 := by rw [fr_length]; omega
          clear hX n0 f1 d1 r1 b1 HST HBZ hrX hbX hoX
          generalize mo (K + 1) F D (k + 1) 0 = cm at *
          go_wp2_with (at_builtin; refine wpList_push (.tmp 97) (.tmp 101) rfl rfl W.heap.size _ (fr (fun j => mo (K + 1) F D j 0) (k + 1)) rfl HOX.out rfl hlenX hszX ?_; intro v' w' hrow' hg' hat')
          have hnext := irow_apart HRX.out hg' (fun q hq e => by
            have h2 := HNE.out.2
            have h3 : some w0.heap.size = some q := hq
            have h4 : some q = some go := e
            injection h3 with h3
            injection h4 with h4
            omega)
          have hbel := (HBW.out.trans (HBX.out.mono hsz0)).grown hg' hszX (fun q hq => (HOX.out.blk q hq).1)
          rw [HPU.out] at hrow'
          have hne' : v'.ownBlock ≠ some w0.heap.size := fun e => by
            have h2 := HNE.out.2
            have h3 : w0.heap.size < X.heap.size := (HRX.out.blk _ rfl).2
            rcases hat' with h4 | ⟨g4, h4, h5⟩
            · rw [h4] at e
              have h6 : some go = some w0.heap.size := e
              injection h6 with h6
              omega
            · rw [h4] at e
              injection e with e
              omega
          have hlk2 : k + 1 + 1 ≤ N := hlk
          clear HRX HBX HOX HBW HOUT HNE HPU c0 hg' hat' hlenX
          obtain ⟨A3, c3, rfl⟩ := hrow'.shape
          go_wp2_with fail
          go_roundw
          case rel => exact ⟨k + 1, w0.heap.size, by omega, rfl, hnext.mono hsz0, hrow', hne', hbel⟩
          case measure => simp [lenV, fr_length]; omega
    · obtain rfl : N = k + 1 := by omega
      have HBE : Hid (Below w.heap.size w wr) := Lib.hid (HB.out.trans (hb.mono (by have := HZ.out; omega)))
      have hout2 := hout.mono (show w.heap.size ≤ W.heap.size by have := HZ.out; omega)
      clear hrow hb hne hout
      go_wp2
      go_ret
      exact ⟨_, rfl, hout2, HBE.out⟩
end Go.Proofs.Ytnmmgpmhpjjehaa
