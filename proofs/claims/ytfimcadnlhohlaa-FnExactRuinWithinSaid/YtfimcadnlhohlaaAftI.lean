/- The program's afterGame. -/
import Derived.Test.YtfimcadnlhohlaaWinI
import Derived.Test.YtfimcadnlhohlaaHwS
import Derived.Test.YtfimcadnlhohlaaLvLaw
import Derived.Deep.RegionLaw
import Derived.ChangeKeysEq
import Derived.Test.YtfimcadnlhohlaaDegI
namespace Go.Proofs.Ytfimcadnlhohlaa
open Go.RowKit
set_option linter.unusedVariables false
/-- a chance in its box, and a row as it stands -/
structure AfAt (w : World) (n d : Int) (h : Nat) (v : Value) (L : List Int) (X : World) : Prop where
  box : RBox w w.heap.size n d X
  row : IRow X h v L
theorem AfAt.kept {w X X' : World} {n d : Int} {h : Nat} {v : Value} {L : List Int} (H : AfAt w n d h v L X) (hb : Below X.heap.size X X') : AfAt w n d h v L X' := ⟨H.box.kept hb, H.row.below hb⟩
theorem AfAt.put {w X : World} {n d : Int} {h l c : Nat} {L : List Int} (hh : w.heap.size < h) (H : AfAt w n d h (.slice (some ⟨h, 0, none⟩) l c) L X) (j : Nat) (u : Int) : AfAt w n d h (.slice (some ⟨h, 0, none⟩) l c) (L.set j u) (X.setCell ⟨h, j, none⟩ (.int .i64 u)) :=
  ⟨⟨by rw [World.cell?_setCell_other _ _ _ _ (by intro e; injection e with e; omega)]; exact H.box.1, by rw [World.cell?_setCell_other _ _ _ _ (by intro e; injection e with e; omega)]; exact H.box.2.1,
    by simpa [World.setCell] using H.box.2.2.1, H.box.2.2.2.setCell (p := ⟨h, j, none⟩) (by show w.heap.size ≤ h; omega) _⟩, (H.row.set j u).1⟩
theorem AfAt.drew {w X : World} {n d : Int} {h : Nat} {v : Value} {L : List Int} (H : AfAt w n d h v L X) : AfAt w n d h v L X.drew := H.kept (Below.refl _ _).drew
theorem afKeep {w X X' : World} {n d z : Int} {h l c p : Nat} {L : List Int} (H : X.cell? ⟨w.heap.size, 0, none⟩ = some (.int .i64 n) ∧ X.cell? ⟨w.heap.size, 1, none⟩ = some (.int .i64 d) ∧ X.cell? ⟨h, p, none⟩ = some (.int .i64 z) ∧ AfAt w n d h (.slice (some ⟨h, 0, none⟩) l c) L X) (hb : Below X.heap.size X X') :
    X'.cell? ⟨w.heap.size, 0, none⟩ = some (.int .i64 n) ∧ X'.cell? ⟨w.heap.size, 1, none⟩ = some (.int .i64 d) ∧ X'.cell? ⟨h, p, none⟩ = some (.int .i64 z) ∧ AfAt w n d h (.slice (some ⟨h, 0, none⟩) l c) L X' :=
  ⟨(H.2.2.2.kept hb).box.1, (H.2.2.2.kept hb).box.2.1, (hb.cell (p := ⟨h, p, none⟩) H.2.2.2.row.lt.2).trans H.2.2.1, H.2.2.2.kept hb⟩
theorem afOf {w X : World} {n d z : Int} {h l c p : Nat} {L : List Int} (H : X.cell? ⟨w.heap.size, 0, none⟩ = some (.int .i64 n) ∧ X.cell? ⟨w.heap.size, 1, none⟩ = some (.int .i64 d) ∧ X.cell? ⟨h, p, none⟩ = some (.int .i64 z) ∧ AfAt w n d h (.slice (some ⟨h, 0, none⟩) l c) L X) : AfAt w n d h (.slice (some ⟨h, 0, none⟩) l c) L X := H.2.2.2
set_option maxRecDepth 100000 in
set_option maxHeartbeats 4000000 in
theorem afterGame_any (F : Nat → Int) (g : Nat) (n d : Int) (v : Value) (w : World) (hr : RInts w v (fr F (g + 1))) (hg : 1 ≤ g ∧ g ≤ 12) (hn : 1 ≤ n) (hd : n ≤ d) (hd6 : d ≤ 6)
    (hSM : ∀ j, j ≤ g → 0 ≤ F j ∧ F j ≤ 101559956668416) (hSP : ∀ m j, m ≤ g + 1 → j ≤ g → 0 ≤ hwP g n d F m j ∧ hwP g n d F m j ≤ 101559956668416) :
    Calls Try.prog 84 #[v, .agg #[.int .i64 n, .int .i64 d]] w (IntsNew w (fr (hwP g n d F (g + 1)) (g + 1))) := by
  obtain ⟨i0, hi0, hz0, hz1, hz2⟩ := info_parts intInfo
  obtain ⟨gp, op, cp, hv, hgp, hcells⟩ := hr.cells (by rw [fr_length]; omega)
  rw [fr_length] at hv hcells
  subst hv
  have HPC : Hid (∀ X, Below w.heap.size w X → ∀ j, j < g + 1 → X.cell? ⟨gp, op + j, none⟩ = some (.int .i64 (F j))) := Lib.hid fun X hX j hj => by
    have := (hX.cell (p := ⟨gp, op + j, none⟩) hgp).trans (hcells j hj)
    rwa [fr_get _ _ _ hj] at this
  have HSM := Lib.hid hSM
  have HSP := Lib.hid hSP
  obtain ⟨W, hW⟩ : ∃ W, W = w.alloc (.cells #[.int .i64 n, .int .i64 d] 25) := ⟨_, rfl⟩
  have hbx : RBox w w.heap.size n d W := by rw [hW]; exact RBox.start w n d
  have hz : W.heap.size = w.heap.size + 1 := by rw [hW]; simp
  have HBX := Lib.hid hbx
  have HW := Lib.hid hW
  have HZ := Lib.hid hz
  have HLT : Hid (w.heap.size < W.heap.size) := Lib.hid (by omega)
  have HRE : Hid (∀ w, Calls Try.prog 63 #[.agg #[.int .i64 n, .int .i64 d]] w (Ret w (.int .i64 (d - n)))) := Lib.hid fun w => rest_any n d w (by omega)
  clear hbx hz hW hr hcells hSM hSP
  go_enter Try.func84, Try.ntmps84
  go_wp2_with (rw [← HW.out]; refine wpList_make_full _ rfl (.tmp 10) (.tmp 10) 51 rfl W.heap.size 3 i0 (.int .i64 0) 1 Try.underlying51 hi0 hz0 hz1 .i64 .i64 _ _ (g + 1) rfl rfl (by omega) (by omega) (by rw [hz2]; omega) (by unfold maxLen; omega) (Nat.le_refl _) ?_; intro w1 hown1 hgrow1)
  have HR0 : Hid (IRow w1 W.heap.size (.slice (some ⟨W.heap.size, 0, none⟩) (g + 1) (g + 1)) (fr (hwP g n d F 0) (g + 1))) := Lib.hid (IRow.of_own hown1 (by simp [fr_length]) (by rw [← hwP_zero, madeOne _ rfl]; simp))
  have HB0 : Hid (RBox w w.heap.size n d w1) := Lib.hid (HBX.out.kept ((Below.refl _ _).grown hgrow1 (Nat.le_refl _) (by simp)))
  clear hown1 hgrow1
  go_loopw [17] (fun x wq => ∃ m : Nat, m ≤ g + 1 ∧ x = .int .i64 (m : Int) ∧ AfAt w n d W.heap.size (.slice (some ⟨W.heap.size, 0, none⟩) (g + 1) (g + 1)) (fr (hwP g n d F m) (g + 1)) wq) (fun x _ => g + 1 - (intOf x).toNat)
  case atStart => exact ⟨0, Nat.zero_le _, rfl, ⟨HB0.out, HR0.out⟩⟩
  case round =>
    obtain ⟨m, hm, rfl, haf⟩ := hrel
    clear HR0 HB0
    by_cases hlm : m < g + 1
    · have n0 := HPC.out _ haf.box.2.2.2 m hlm
      have b0 := haf.box.1
      have b1 := haf.box.2.1
      have e1 := haf.row.cell (j := m) (by rw [fr_length]; omega)
      rw [fr_get _ _ _ (by omega)] at e1
      have r1 := haf.row.free m
      have x1 := HSM.out m (by omega)
      have x2 := HSP.out m m (by omega) (by omega)
      have x3 := mul_le_of' (y := d) (B := 6) x1 (by omega)
      have i1 : (m : Int) < (g : Int) + 1 := by omega
      by_cases hed : m = 0 ∨ m = g
      · have HE := Lib.hid (hwP_edge (n := n) (d := d) (f := F) hed (g + 1))
        have HST := Lib.hid (haf.put HLT.out m (hwP g n d F m m + F m * d))
        clear haf
        generalize F m = x at *
        generalize hwP g n d F m m = y at *
        by_cases h0 : m = 0
        · have j1 : ((m : Int) == 0) = true := by rw [beq_iff_eq]; omega
          clear hed h0
          go_wp2_with fail
          go_region
          go_wp2_with fail
          go_roundw
          case rel => exact ⟨m + 1, by omega, by go_num, by rw [← HE.out]; exact HST.out.drew⟩
          case measure => first | (simp [intOf]; done) | (simp [intOf]; omega)
        · have j1 : ((m : Int) == 0) = false := by rw [beq_eq_false_iff_ne]; omega
          have j2 : ((m : Int) == (g : Int)) = true := by rw [beq_iff_eq]; omega
          clear hed h0
          go_wp2_with fail
          go_region
          go_wp2_with fail
          go_roundw
          case rel => exact ⟨m + 1, by omega, by go_num, by rw [← HE.out]; exact HST.out.drew⟩
          case measure => first | (simp [intOf]; done) | (simp [intOf]; omega)
      · obtain ⟨p, hp⟩ : ∃ p, m = p + 1 := ⟨m - 1, by omega⟩
        subst hp
        have HE := Lib.hid (hwP_mid (n := n) (d := d) (f := F) hed (g + 1))
        have e2 := haf.row.cell (j := p + 1 + 1) (by rw [fr_length]; omega)
        rw [fr_get _ _ _ (by omega)] at e2
        have e0 := haf.row.cell (j := p) (by rw [fr_length]; omega)
        rw [fr_get _ _ _ (by omega)] at e0
        have r2 := haf.row.free (p + 1 + 1)
        have HST := Lib.hid (haf.put HLT.out (p + 1 + 1) (hwP g n d F (p + 1) (p + 1 + 1) + F (p + 1) * n))
        have y2 := HSP.out (p + 1) (p + 1 + 1) (by omega) (by omega)
        have y0 := HSP.out (p + 1) p (by omega) (by omega)
        have x4 := mul_le_of' (y := n) (B := 6) x1 (by omega)
        have x5 := mul_le_of' (y := d - n) (B := 6) x1 (by omega)
        have i2 : (p : Int) + 1 < (g : Int) + 1 := by omega
        have i3 : (p : Int) + 1 + 1 < (g : Int) + 1 := by omega
        have i4 : (p : Int) < (g : Int) + 1 := by omega
        have i5 : (p : Int) + 1 - 1 = (p : Int) := by omega
        have j1 : ((p : Int) + 1 == 0) = false := by rw [beq_eq_false_iff_ne]; omega
        have j2 : ((p : Int) + 1 == (g : Int)) = false := by rw [beq_eq_false_iff_ne]; omega
        clear haf e1 r1 x2 x3
        generalize fr (hwP g n d F (p + 1)) (g + 1) = L at *
        generalize F (p + 1) = x at *
        generalize hwP g n d F (p + 1) (p + 1 + 1) = y at *
        generalize hwP g n d F (p + 1) p = z at *
        have E0 := Lib.hid e0
        clear hed e0
        go_wp2_with fail
        go_region
        go_wp2_with fail
        refine wp_nameR (fun X => AfAt w n d W.heap.size (.slice (some ⟨W.heap.size, 0, none⟩) (g + 1) (g + 1)) (L.set (p + 1 + 1) (y + x * n)) X ∧ X.cell? ⟨W.heap.size, p, none⟩ = some (.int .i64 z))
          ⟨HST.out.drew, (World.cell?_setCell_other _ _ _ _ (by intro e; injection e with e1 e2; omega)).trans E0.out⟩ ?_
        rintro X ⟨haf, e0⟩
        clear n0 e2 r2 HST E0 b0 b1
        generalize L.set (p + 1 + 1) (y + x * n) = L at *
        have HA0 := Lib.hid haf
        have b0 := haf.box.1
        have b1 := haf.box.2.1
        have lt0 := haf.row.lt.2
        have LT0 := Lib.hid lt0
        have E0 := Lib.hid e0
        have k1 := IntWalk.i64_in (x * (d - n)) (by omega)
        have k2 := IntWalk.i64_in (z + x * (d - n)) (by omega)
        have k3 : IntKind.i64.wrap ((p : Int) + 1 - 1) = (p : Int) := by rw [i5]; exact IntWalk.i64_in _ (by omega)
        have k4 := IntWalk.i64_in (p : Int) (by omega)
        have k5 : (0 : Int) ≤ (p : Int) := by omega
        clear haf lt0
        go_region_law (go_simp; go_at_call 63; refine (HRE.out _).mono ?_; rintro e w3 ⟨rfl, hb3⟩; have hx3 := (Below.refl X.heap.size X).drew.trans hb3; have t0 := (hx3.cell (p := ⟨W.heap.size, p, none⟩) LT0.out).trans E0.out; have hz := HA0.out.kept hx3; have s1 := hz.row.free p; have HST := Lib.hid (hz.put HLT.out p (z + x * (d - n))); clear hz hx3 hb3)
        all_goals
          go_wp2_with fail
          all_goals exact ⟨⟨p + 1 + 1, by omega, by go_num, by rw [← HE.out]; exact HST.out⟩, by simp [intOf] <;> omega⟩
    · obtain rfl : m = g + 1 := by omega
      have HAF := Lib.hid haf
      clear haf
      go_wp2_with fail
      go_ret
      exact ⟨_, rfl, HAF.out.row.mono (by have := HZ.out; omega), HAF.out.box.2.2.2⟩
end Go.Proofs.Ytfimcadnlhohlaa
