/- Pack 22 of what FnExactRankOrdered needs: RkM, RaceI. -/
import Derived.Test.YtmfcknlpbliehaaDoorKFnExactRankOrdered21
import Derived.Deep.RegionHeld3
import Derived.Deep.QuietTactic
import Derived.BigQuiet
import Derived.RegionTactic
import Derived.ChangeAlike
/- The rank of ordered votes: the sum of the ways that come before. -/
namespace Go.Proofs.YtmfcknlpbliehaaDoor
def rkS (s : ByteArray) : Nat → Nat
  | 0 => 0
  | k + 1 => rkS s k + byS (vp s s.size) (vp s k) (cd s k)
def rkV (s : ByteArray) : Int := if oB s = true then ((rkS s s.size : Nat) : Int) else 0
theorem vp_ok {s : ByteArray} (h : oB s = true) {k : Nat} (hk : k ≤ s.size) : Ok (vp s s.size) (vp s k) := by
  refine ⟨fun i hi => vc_mono2 s i s.size hk, fun i hi => ?_⟩
  obtain ⟨f1, f2, f3⟩ := oB_fall h hk
  have : i = 0 ∨ i = 1 ∨ i = 2 := by omega
  rcases this with e | e | e <;> subst e
  · exact f1
  · exact f2
  · exact f3
theorem vp_tot {s : ByteArray} (h : oB s = true) : tot (vp s s.size) ≤ 16 := by
  rw [tot_vp (oB_of h).1 (Nat.le_refl _)]
  exact ((votB_iff s).1 (oB_of h).1).1
theorem vp_sm {s : ByteArray} (h : oB s = true) : sm (vp s s.size) := fun j hj => by
  have := vp_tot h
  unfold tot at this
  have : j = 0 ∨ j = 1 ∨ j = 2 ∨ j = 3 := by omega
  rcases this with e | e | e | e <;> subst e <;> omega
theorem rkS_bd {s : ByteArray} (h : oB s = true) : ∀ k, k ≤ s.size → rkS s k ≤ 17179869184 * k
  | 0, _ => by simp [rkS]
  | k + 1, hk => by
    have h1 := rkS_bd h k (by omega)
    have h2 := byS_bd (p := vp s k) (vp_tot h) (cd s k)
    have h3 := votB_lt (oB_of h).1 k (by omega)
    rw [rkS]
    have h4 : 4294967296 * cd s k ≤ 4294967296 * 4 := Nat.mul_le_mul_left _ (by omega)
    omega
end Go.Proofs.YtmfcknlpbliehaaDoor

/- waysBy: how many ways begin with a vote for a candidate. -/
namespace Go.Proofs.YtmfcknlpbliehaaDoor
open Go.RowKit
set_option linter.unusedVariables false
def raceV (R : Nat → Nat) (mb : Nat) : Value := .agg #[.int .i64 ((R 0 : Nat) : Int), .int .i64 ((R 1 : Nat) : Int), .int .i64 ((R 2 : Nat) : Int), .int .i64 ((R 3 : Nat) : Int), .map (some mb)]
theorem W_congr (R : Nat → Nat) : ∀ p q, (∀ j, j < 4 → p j = q j) → W R p = W R q := fun p q h => by
  have h0 := h 0 (by omega); have h1 := h 1 (by omega); have h2 := h 2 (by omega); have h3 := h 3 (by omega)
  unfold W tot
  rw [h0, h1, h2, h3]
def WayRet (w : World) (mb : Nat) (R : Nat → Nat) (x : Nat) (e : Ending) (w' : World) : Prop := e = .returned (.int .i64 (x : Int)) ∧ MapW w' mb (W R) ∧ w.grownBy w' (some mb)
theorem grown_trans9 {a b c : World} {r : Option Nat} (h : a.grownBy b r) (k : b.grownBy c r) : a.grownBy c r :=
  ⟨k.os.trans h.os, k.tape.trans h.tape, k.output.trans h.output, Nat.le_trans h.size k.size, fun i hi hn => (k.block i (Nat.lt_of_lt_of_le hi h.size) hn).trans (h.block i hi hn)⟩
theorem grown_of_below {w w' : World} (hb : Below w.heap.size w w') (r : Option Nat) : w.grownBy w' r := ⟨hb.os, hb.tape, hb.output, hb.size, fun k hk _ => hb.block k hk⟩
theorem cell_grown9 {w w' : World} {row : Option Nat} (h : w.grownBy w' row) {b : Nat} (hb : b < w.heap.size) (hne : some b ≠ row) (o : Nat) : w'.cell? ⟨b, o, none⟩ = w.cell? ⟨b, o, none⟩ := by
  unfold World.cell?
  rw [h.block b hb hne]
/-- the cells of the two boxes, and what stays -/
def SR (R p : Nat → Nat) (i mb : Nat) (w W9 : World) : Prop :=
  (W9.cell? ⟨w.heap.size, 0, none⟩ = some (.int .i64 ((R 0 : Nat) : Int)) ∧ W9.cell? ⟨w.heap.size, 1, none⟩ = some (.int .i64 ((R 1 : Nat) : Int)) ∧ W9.cell? ⟨w.heap.size, 2, none⟩ = some (.int .i64 ((R 2 : Nat) : Int)) ∧ W9.cell? ⟨w.heap.size, 3, none⟩ = some (.int .i64 ((R 3 : Nat) : Int)) ∧ W9.cell? ⟨w.heap.size, 4, none⟩ = some (.map (some mb)) ∧
    W9.cell? ⟨w.heap.size + 1, 0, none⟩ = some (.int .i64 ((p 0 : Nat) : Int)) ∧ W9.cell? ⟨w.heap.size + 1, 1, none⟩ = some (.int .i64 ((p 1 : Nat) : Int)) ∧ W9.cell? ⟨w.heap.size + 1, 2, none⟩ = some (.int .i64 ((p 2 : Nat) : Int)) ∧ W9.cell? ⟨w.heap.size + 1, 3, none⟩ = some (.int .i64 ((p 3 : Nat) : Int)) ∧
    W9.cell? ⟨w.heap.size, i, none⟩ = some (.int .i64 ((R i : Nat) : Int)) ∧ W9.cell? ⟨w.heap.size + 1, i, none⟩ = some (.int .i64 ((p i : Nat) : Int))) ∧ w.heap.size + 2 ≤ W9.heap.size ∧ mb < w.heap.size ∧ (MapW W9 mb (W R) ∧ w.grownBy W9 (some mb))
section
variable {R p : Nat → Nat} {i mb : Nat} {w W9 W8 : World}
theorem SR.step (h : SR R p i mb w W9) (hm : MapW W8 mb (W R)) (hg : W9.grownBy W8 (some mb)) : SR R p i mb w W8 := by
  obtain ⟨⟨h0, h1, h2, h3, h4, h5, h6, h7, h8, h9, h10⟩, hz, hmb, hs⟩ := h
  have e : ∀ x o, w.heap.size ≤ x → x < w.heap.size + 2 → W8.cell? ⟨x, o, none⟩ = W9.cell? ⟨x, o, none⟩ := fun x o hx hx2 => cell_grown9 hg (by omega) (by intro he; injection he with he; omega) o
  exact ⟨⟨(e _ _ (by omega) (by omega)).trans h0, (e _ _ (by omega) (by omega)).trans h1, (e _ _ (by omega) (by omega)).trans h2, (e _ _ (by omega) (by omega)).trans h3, (e _ _ (by omega) (by omega)).trans h4, (e _ _ (by omega) (by omega)).trans h5, (e _ _ (by omega) (by omega)).trans h6, (e _ _ (by omega) (by omega)).trans h7, (e _ _ (by omega) (by omega)).trans h8, (e _ _ (by omega) (by omega)).trans h9, (e _ _ (by omega) (by omega)).trans h10⟩, Nat.le_trans hz hg.size, hmb, hm, grown_trans9 hs.2 hg⟩
theorem SR.below (h : SR R p i mb w W9) (hb : Below W9.heap.size W9 W8) : SR R p i mb w W8 := h.step (h.2.2.2.1.below hb) (grown_of_below hb _)
theorem SR.drewN (h : SR R p i mb w W9) (n : Nat) : SR R p i mb w (W9.drewN n) := h.below (below_drewN (Below.refl _ _) n)
theorem SR.drew (h : SR R p i mb w W9) : SR R p i mb w W9.drew := h.drewN 1
theorem SR.start (h : MapW w mb (W R)) (hi : i < 4) (T1 T2 : TypeId) : SR R p i mb w ((w.alloc (.cells #[.int .i64 ((R 0 : Nat) : Int), .int .i64 ((R 1 : Nat) : Int), .int .i64 ((R 2 : Nat) : Int), .int .i64 ((R 3 : Nat) : Int), .map (some mb)] T1)).alloc (.cells #[.int .i64 ((p 0 : Nat) : Int), .int .i64 ((p 1 : Nat) : Int), .int .i64 ((p 2 : Nat) : Int), .int .i64 ((p 3 : Nat) : Int)] T2)) := by
  have hb : Below w.heap.size w ((w.alloc (.cells #[.int .i64 ((R 0 : Nat) : Int), .int .i64 ((R 1 : Nat) : Int), .int .i64 ((R 2 : Nat) : Int), .int .i64 ((R 3 : Nat) : Int), .map (some mb)] T1)).alloc (.cells #[.int .i64 ((p 0 : Nat) : Int), .int .i64 ((p 1 : Nat) : Int), .int .i64 ((p 2 : Nat) : Int), .int .i64 ((p 3 : Nat) : Int)] T2)) := ((Below.refl _ _).alloc (Nat.le_refl _) _).alloc (by simp) _
  refine ⟨?_, by simp, h.lt, h.below hb, grown_of_below hb _⟩
  have hi4 : i = 0 ∨ i = 1 ∨ i = 2 ∨ i = 3 := by omega
  rcases hi4 with e | e | e | e <;> subst e <;> simp [go_sem]
theorem SR.fin (h : SR R p i mb w W9) {x y : Nat} (e : x = y) : WayRet w mb R y (.returned (.int .i64 (x : Int))) W9 := by subst e; exact ⟨rfl, h.2.2.2.1, h.2.2.2.2⟩
end
theorem no_iff {R p : Nat → Nat} {i : Nat} : no R p i ↔ p i = R i ∨ ovB p i = true := by
  unfold no ovB
  simp
set_option maxRecDepth 100000 in
set_option maxHeartbeats 4000000 in
theorem waysBy_any (R p : Nat → Nat) (i mb : Nat) (w : World) (hi : i < 4) (hR : sm R) (hp : sm p) (h : MapW w mb (W R))
    (IH : ¬ no R p i → ∀ w, MapW w mb (W R) → Calls Tryd.prog 43 #[raceV R mb, stA (up p i)] w (WayRet w mb R (W R (up p i)))) :
    Calls Tryd.prog 35 #[raceV R mb, stA p, .int .i64 (i : Int)] w (WayRet w mb R (byW R p i)) := by
  have HS := Lib.hid (SR.start (p := p) h hi 43 38)
  have HO : Hid (∀ W9, SR R p i mb w W9 → Calls Tryd.prog 42 #[.agg #[.int .i64 ((p 0 : Nat) : Int), .int .i64 ((p 1 : Nat) : Int), .int .i64 ((p 2 : Nat) : Int), .int .i64 ((p 3 : Nat) : Int)], .int .i64 (i : Int)] W9 fun e w' => e = .returned (.bool (ovB p i)) ∧ SR R p i mb w w') := Lib.hid fun W9 hW => (overtakes_any p i hi W9).mono fun _ _ ⟨h1, h2⟩ => ⟨h1, hW.below h2⟩
  have HT : Hid (∀ W9, SR R p i mb w W9 → Calls Tryd.prog 36 #[.agg #[.int .i64 ((p 0 : Nat) : Int), .int .i64 ((p 1 : Nat) : Int), .int .i64 ((p 2 : Nat) : Int), .int .i64 ((p 3 : Nat) : Int)], .int .i64 (i : Int)] W9 fun e w' => e = .returned (stA (up p i)) ∧ SR R p i mb w w') := Lib.hid fun W9 hW => (with_any p i hi (hp i hi) W9).mono fun _ _ ⟨h1, h2⟩ => ⟨h1, hW.below h2⟩
  have hi4 : (i : Int) < 4 := by omega
  have hp0 := hp i hi
  have hR0 := hR i hi
  unfold raceV at IH
  unfold raceV stA
  unfold stA at HT
  by_cases hn : p i = R i
  · have HB : Hid (byW R p i = 0) := Lib.hid (byW_no (no_iff.2 (.inl hn)))
    rw [HB.out]
    have q1 : (((p i : Nat) : Int) == ((R i : Nat) : Int)) = true := by rw [hn]; simp
    clear IH h HB
    obtain ⟨⟨z0, z1, z2, z3, z4, z5, z6, z7, z8, z9, z10⟩, zr⟩ := id HS.out
    clear zr hn
    go_enter Tryd.func35, Tryd.ntmps35
    go_wp2
    go_quiet (fail)
    go_wp2
    go_ret
    exact SR.fin (HS.out.drewN _) rfl
  · have q1 : (((p i : Nat) : Int) == ((R i : Nat) : Int)) = false := by simp; omega
    have HSD := Lib.hid HS.out.drew
    rcases Bool.eq_false_or_eq_true (ovB p i) with ho | ho
    · have HB : Hid (byW R p i = 0) := Lib.hid (byW_no (no_iff.2 (.inr ho)))
      rw [HB.out]
      rw [ho] at HO
      clear IH h HB hn ho
      go_enter Tryd.func35, Tryd.ntmps35
      go_wp2
      go_region_held3 (fun W9 => (W9.cell? ⟨w.heap.size, 0, none⟩ = some (.int .i64 ((R 0 : Nat) : Int)) ∧ W9.cell? ⟨w.heap.size, 1, none⟩ = some (.int .i64 ((R 1 : Nat) : Int)) ∧ W9.cell? ⟨w.heap.size, 2, none⟩ = some (.int .i64 ((R 2 : Nat) : Int)) ∧ W9.cell? ⟨w.heap.size, 3, none⟩ = some (.int .i64 ((R 3 : Nat) : Int)) ∧ W9.cell? ⟨w.heap.size, 4, none⟩ = some (.map (some mb)) ∧ W9.cell? ⟨w.heap.size + 1, 0, none⟩ = some (.int .i64 ((p 0 : Nat) : Int)) ∧ W9.cell? ⟨w.heap.size + 1, 1, none⟩ = some (.int .i64 ((p 1 : Nat) : Int)) ∧ W9.cell? ⟨w.heap.size + 1, 2, none⟩ = some (.int .i64 ((p 2 : Nat) : Int)) ∧ W9.cell? ⟨w.heap.size + 1, 3, none⟩ = some (.int .i64 ((p 3 : Nat) : Int)) ∧ W9.cell? ⟨w.heap.size, i, none⟩ = some (.int .i64 ((R i : Nat) : Int)) ∧ W9.cell? ⟨w.heap.size + 1, i, none⟩ = some (.int .i64 ((p i : Nat) : Int))) ∧ w.heap.size + 2 ≤ W9.heap.size ∧ mb < w.heap.size ∧ (MapW W9 mb (W R) ∧ w.grownBy W9 (some mb))) (first | exact HSD.out | assumption) (first | (go_at_call 42; refine (HO.out _ (by assumption)).mono ?_; rintro e w' ⟨rfl, hS'⟩))
      go_wp2
      go_ret
      exact SR.fin (by assumption) rfl
    · have hn2 : ¬ no R p i := fun hx => (no_iff.1 hx).elim hn (fun hy => by rw [ho] at hy; exact absurd hy (by decide))
      have HB : Hid (byW R p i = W R (up p i)) := Lib.hid (byW_go hn2)
      rw [HB.out]
      rw [ho] at HO
      have HI : Hid (∀ W9, SR R p i mb w W9 → Calls Tryd.prog 43 #[.agg #[.int .i64 ((R 0 : Nat) : Int), .int .i64 ((R 1 : Nat) : Int), .int .i64 ((R 2 : Nat) : Int), .int .i64 ((R 3 : Nat) : Int), .map (some mb)], stA (up p i)] W9 fun e w' => e = .returned (.int .i64 ((W R (up p i) : Nat) : Int)) ∧ SR R p i mb w w') := Lib.hid fun W9 hW => (IH hn2 W9 hW.2.2.2.1).mono fun _ _ ⟨h1, h2, h3⟩ => ⟨h1, hW.step h2 h3⟩
      clear IH h HB hn ho hn2
      go_enter Tryd.func35, Tryd.ntmps35
      go_wp2
      go_region_held3 (fun W9 => (W9.cell? ⟨w.heap.size, 0, none⟩ = some (.int .i64 ((R 0 : Nat) : Int)) ∧ W9.cell? ⟨w.heap.size, 1, none⟩ = some (.int .i64 ((R 1 : Nat) : Int)) ∧ W9.cell? ⟨w.heap.size, 2, none⟩ = some (.int .i64 ((R 2 : Nat) : Int)) ∧ W9.cell? ⟨w.heap.size, 3, none⟩ = some (.int .i64 ((R 3 : Nat) : Int)) ∧ W9.cell? ⟨w.heap.size, 4, none⟩ = some (.map (some mb)) ∧ W9.cell? ⟨w.heap.size + 1, 0, none⟩ = some (.int .i64 ((p 0 : Nat) : Int)) ∧ W9.cell? ⟨w.heap.size + 1, 1, none⟩ = some (.int .i64 ((p 1 : Nat) : Int)) ∧ W9.cell? ⟨w.heap.size + 1, 2, none⟩ = some (.int .i64 ((p 2 : Nat) : Int)) ∧ W9.cell? ⟨w.heap.size + 1, 3, none⟩ = some (.int .i64 ((p 3 : Nat) : Int)) ∧ W9.cell? ⟨w.heap.size, i, none⟩ = some (.int .i64 ((R i : Nat) : Int)) ∧ W9.cell? ⟨w.heap.size + 1, i, none⟩ = some (.int .i64 ((p i : Nat) : Int))) ∧ w.heap.size + 2 ≤ W9.heap.size ∧ mb < w.heap.size ∧ (MapW W9 mb (W R) ∧ w.grownBy W9 (some mb))) (first | exact HSD.out | assumption) (first | (go_at_call 42; refine (HO.out _ (by assumption)).mono ?_; rintro e w' ⟨rfl, hS'⟩))
      go_wp2
      go_region_held3 (fun W9 => (W9.cell? ⟨w.heap.size, 0, none⟩ = some (.int .i64 ((R 0 : Nat) : Int)) ∧ W9.cell? ⟨w.heap.size, 1, none⟩ = some (.int .i64 ((R 1 : Nat) : Int)) ∧ W9.cell? ⟨w.heap.size, 2, none⟩ = some (.int .i64 ((R 2 : Nat) : Int)) ∧ W9.cell? ⟨w.heap.size, 3, none⟩ = some (.int .i64 ((R 3 : Nat) : Int)) ∧ W9.cell? ⟨w.heap.size, 4, none⟩ = some (.map (some mb)) ∧ W9.cell? ⟨w.heap.size + 1, 0, none⟩ = some (.int .i64 ((p 0 : Nat) : Int)) ∧ W9.cell? ⟨w.heap.size + 1, 1, none⟩ = some (.int .i64 ((p 1 : Nat) : Int)) ∧ W9.cell? ⟨w.heap.size + 1, 2, none⟩ = some (.int .i64 ((p 2 : Nat) : Int)) ∧ W9.cell? ⟨w.heap.size + 1, 3, none⟩ = some (.int .i64 ((p 3 : Nat) : Int)) ∧ W9.cell? ⟨w.heap.size, i, none⟩ = some (.int .i64 ((R i : Nat) : Int)) ∧ W9.cell? ⟨w.heap.size + 1, i, none⟩ = some (.int .i64 ((p i : Nat) : Int))) ∧ w.heap.size + 2 ≤ W9.heap.size ∧ mb < w.heap.size ∧ (MapW W9 mb (W R) ∧ w.grownBy W9 (some mb))) (first | assumption | exact SR.drew (by assumption)) (first
        | (go_at_call 36; refine (HT.out _ (by assumption)).mono ?_; rintro e w' ⟨rfl, hS'⟩)
        | (go_at_call 43; refine (HI.out _ (by assumption)).mono ?_; rintro e w' ⟨rfl, hS'⟩))
      go_wp2
      go_ret
      exact SR.fin (by assumption) rfl
end Go.Proofs.YtmfcknlpbliehaaDoor
