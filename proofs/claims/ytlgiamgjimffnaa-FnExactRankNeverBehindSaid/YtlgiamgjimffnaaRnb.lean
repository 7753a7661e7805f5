/- (ballot).rankOf; RankNeverBehind. -/
import Derived.Test.YtlgiamgjimffnaaWays2
import Derived.Test.YtlgiamgjimffnaaNewBal
import Derived.Test.YtlgiamgjimffnaaRnbMath
import Derived.Test.YtlgiamgjimffnaaAheadB
import Derived.Test.YtlgiamgjimffnaaCountU
import Derived.StillTailTactics
namespace Go.Proofs.Ytlgiamgjimffnaa
open Go.RowKit
def BalRet2 (w : World) (mb : Nat) (V : Int → Int → Int) (x : Value) (e : Ending) (w' : World) : Prop := e = .returned x ∧ MapOk w' mb V ∧ w.grownBy w' (some mb)
theorem SW.store {a b mb : Nat} {k l u d : Int} {V : Int → Int → Int} {w W : World} (h : SW a b mb k l u d V w W) (u' d' : Int) : SW a b mb k l u' d' V w ((W.setCell ⟨w.heap.size + 1, 0, none⟩ (.int .i64 u')).setCell ⟨w.heap.size + 1, 1, none⟩ (.int .i64 d')) := by
  obtain ⟨⟨h0, h1, h2, h3, h4, h5, h6⟩, hz, hmb, hs⟩ := h
  have o1 : ∀ x o, x ≠ w.heap.size + 1 → ((W.setCell ⟨w.heap.size + 1, 0, none⟩ (.int .i64 u')).setCell ⟨w.heap.size + 1, 1, none⟩ (.int .i64 d')).cell? ⟨x, o, none⟩ = W.cell? ⟨x, o, none⟩ := fun x o hx => by
    rw [World.cell?_setCell_other _ ⟨w.heap.size + 1, 1, none⟩ ⟨x, o, none⟩ _ (fun e => hx (by injection e with e; exact e.symm)), World.cell?_setCell_other _ ⟨w.heap.size + 1, 0, none⟩ ⟨x, o, none⟩ _ (fun e => hx (by injection e with e; exact e.symm))]
  have hsz : ((W.setCell ⟨w.heap.size + 1, 0, none⟩ (.int .i64 u')).setCell ⟨w.heap.size + 1, 1, none⟩ (.int .i64 d')).heap.size = W.heap.size := by simp [World.setCell]
  have hgr : W.grownBy ((W.setCell ⟨w.heap.size + 1, 0, none⟩ (.int .i64 u')).setCell ⟨w.heap.size + 1, 1, none⟩ (.int .i64 d')) (some (w.heap.size + 1)) := by
    refine ⟨rfl, rfl, rfl, by rw [hsz]; omega, fun i hi hne => ?_⟩
    unfold World.setCell
    simp only [Array.getElem?_modify]
    rw [if_neg (fun e => hne (by rw [e])), if_neg (fun e => hne (by rw [e]))]
  refine ⟨⟨(o1 _ _ (by omega)).trans h0, (o1 _ _ (by omega)).trans h1, (o1 _ _ (by omega)).trans h2, (o1 _ _ (by omega)).trans h3, (o1 _ _ (by omega)).trans h4, ?_, ?_⟩, by rw [hsz]; exact hz, hmb, ⟨?_, ?_⟩⟩
  · rw [World.cell?_setCell_other _ ⟨w.heap.size + 1, 1, none⟩ ⟨w.heap.size + 1, 0, none⟩ _ (fun e => by injection e with _ e; omega)]
    exact World.cell?_setCell_same W ⟨w.heap.size + 1, 0, none⟩ _ h5
  · exact World.cell?_setCell_same _ ⟨w.heap.size + 1, 1, none⟩ _ ((World.cell?_setCell_other W ⟨w.heap.size + 1, 0, none⟩ ⟨w.heap.size + 1, 1, none⟩ _ (fun e => by injection e with _ e; omega)).trans h6)
  · exact hs.1.kept hgr (by intro e; injection e with e; omega)
  · refine ⟨hs.2.os, hs.2.tape, hs.2.output, by rw [hsz]; exact hs.2.size, fun i hi hne => (hgr.block i (Nat.lt_of_lt_of_le hi hs.2.size) (by intro e; injection e with e; omega)).trans (hs.2.block i hi hne)⟩
/-- .. and the second box can be written -/
def SF (a b mb : Nat) (k l u d : Int) (V : Int → Int → Int) (w W : World) : Prop := SW a b mb k l u d V w W ∧ W.frozen? ⟨w.heap.size + 1, 0, none⟩ = false ∧ W.frozen? ⟨w.heap.size + 1, 1, none⟩ = false
section
variable {a b mb : Nat} {k l u d : Int} {V : Int → Int → Int} {w W W' : World}
theorem SF.step (h : SF a b mb k l u d V w W) (hm : MapOk W' mb V) (hg : W.grownBy W' (some mb)) : SF a b mb k l u d V w W' := by
  have hz := h.1.2.1
  have hmb := h.1.2.2.1
  refine ⟨h.1.step hm hg, ?_, ?_⟩
  · rw [frozen_grown hg (by omega) (by intro he; injection he with he; omega)]; exact h.2.1
  · rw [frozen_grown hg (by omega) (by intro he; injection he with he; omega)]; exact h.2.2
theorem SF.map (h : SF a b mb k l u d V w W) : MapOk W mb V := h.1.map
theorem SF.below (h : SF a b mb k l u d V w W) (hb : Below W.heap.size W W') : SF a b mb k l u d V w W' :=
  h.step (h.map.below hb) ⟨hb.os, hb.tape, hb.output, hb.size, fun k hk _ => hb.block k hk⟩
theorem SF.drew (h : SF a b mb k l u d V w W) : SF a b mb k l u d V w W.drew := h.below (below_drewN (Below.refl _ _) 1)
theorem SF.store (h : SF a b mb k l u d V w W) (u' d' : Int) : SF a b mb k l u' d' V w ((W.setCell ⟨w.heap.size + 1, 0, none⟩ (.int .i64 u')).setCell ⟨w.heap.size + 1, 1, none⟩ (.int .i64 d')) :=
  ⟨h.1.store u' d', by rw [World.frozen?_setCell, World.frozen?_setCell]; exact h.2.1, by rw [World.frozen?_setCell, World.frozen?_setCell]; exact h.2.2⟩
theorem SF.start (h : MapOk w mb V) : SF a b mb k l u d V w ((w.alloc (.cells #[.int .i64 a, .int .i64 b, .int .i64 k, .int .i64 l, .map (some mb)] 64)).alloc (.cells #[.int .i64 u, .int .i64 d] 61)) :=
  ⟨SW.start h, by simp [go_sem], by simp [go_sem]⟩
theorem SF.fin (h : SF a b mb k l u d V w W) {x y : Int} (e : x = y) : BalRet2 w mb V (.int .i64 y) (.returned (.int .i64 x)) W := by subst e; exact ⟨rfl, h.1.2.2.2.1, h.1.2.2.2.2⟩
end
theorem without_uc (u d c : Int) (w : World) (hc : (c == 85) = true) (hu : -5 ≤ u ∧ u ≤ 100) (hd : -5 ≤ d ∧ d ≤ 100) :
    Calls Try.prog 125 #[.agg #[.int .i64 u, .int .i64 d], .int .u8 c] w (Ret w (.agg #[.int .i64 (u - 1), .int .i64 d])) := by
  obtain rfl : c = 85 := by simpa using hc
  exact without_u u d w hu hd
set_option maxRecDepth 100000 in
set_option maxHeartbeats 2000000 in
theorem rankOf_any (a b mb : Nat) (k l : Int) (s : ByteArray) (w : World) (hab : a + b ≤ 40) (hk : 1 ≤ k ∧ k ≤ 5) (h : MapOk w mb (WV a b k l)) (hs40 : s.size ≤ 40) (ha : a = cntU s.data.toList) (hb : b = s.size - cntU s.data.toList) :
    Calls Try.prog 84 #[.agg #[.int .i64 a, .int .i64 b, .int .i64 k, .int .i64 l, .map (some mb)], .string s] w (BalRet2 w mb (WV a b k l) (.int .i64 (rkL (WV a b k l) s.data.toList a b))) := by
  have HS0 : Hid (SF a b mb k l a b (WV a b k l) w (((w.alloc (.cells #[.int .i64 a, .int .i64 b, .int .i64 k, .int .i64 l, .map (some mb)] 64)).alloc (.cells #[.int .i64 a, .int .i64 b] 61)).drew)) := Lib.hid (SF.start h).drew
  have hcu := cntU_le s.data.toList
  have hl : s.data.toList.length = s.size := by simp
  have HU0 : Hid ((a : Int) = (cntU (s.data.toList.drop 0) : Nat)) := Lib.hid (by rw [List.drop_zero]; omega)
  have HD0 : Hid ((b : Int) = (s.size : Int) - 0 - a) := Lib.hid (by omega)
  have HR0 : Hid (0 + rkL (WV a b k l) (s.data.toList.drop 0) a b = rkL (WV a b k l) s.data.toList a b) := Lib.hid (by rw [List.drop_zero, Int.zero_add])
  generalize hR : rkL (WV a b k l) s.data.toList a b = R at *
  have HRB : Hid (R ≤ 43980465111040) := Lib.hid (by
    have := (rkL_bd a b k l hab s.data.toList a b (Int.le_refl _) (Int.le_refl _)).2
    rw [hR, hl] at this
    omega)
  clear ha hb hcu hl h hR
  go_enter Try.func84, Try.ntmps84
  go_wp2
  go_region
  go_wp2
  go_loopw [5, 12] (fun rk ii wr => ∃ (i : Nat) (acc u d : Int), i ≤ s.size ∧ ii = .int .i64 (i : Int) ∧ rk = .int .i64 acc ∧ 0 ≤ acc ∧ Hid (acc + rkL (WV a b k l) (s.data.toList.drop i) u d = R) ∧ Hid (u = (cntU (s.data.toList.drop i) : Nat)) ∧ Hid (d = (s.size : Int) - i - u) ∧ u ≤ a ∧ d ≤ b ∧ Hid (SF a b mb k l u d (WV a b k l) w wr)) (fun _ ii _ => s.size - (intOf ii).toNat)
  case atStart => exact ⟨0, 0, a, b, by omega, rfl, rfl, by omega, HR0, HU0, HD0, Int.le_refl _, Int.le_refl _, HS0⟩
  case round =>
    obtain ⟨i, acc, u, d, hi, rfl, rfl, hacc, HA, HU, HD, hua, hdb, HS⟩ := hrel
    clear HS0 HU0 HD0 HR0
    have hrb := HRB.out
    by_cases hlt : i < s.size
    · have HDR := Lib.hid (dropc s i hlt)
      have hdl := dropl s (i + 1)
      have hcl := cntU_le (s.data.toList.drop (i + 1))
      rw [hdl] at hcl
      have i1 : (i : Int) < (s.size : Int) := by omega
      by_cases hc : (s[i] == 85) = true
      · have hb85 : ((s[i].toNat : Int) == 85) = true := by
          have h85 : s[i].toNat = 85 := by simpa [← UInt8.toNat_inj] using hc
          rw [h85]; rfl
        have HUN : Hid (u - 1 = (cntU (s.data.toList.drop (i + 1)) : Nat)) := by
          have := HU.out
          rw [HDR.out, cntU_cons, hc] at this
          unfold Hid; simp at this; omega
        have HRN : Hid (acc + WV a b k l u (d - 1) + rkL (WV a b k l) (s.data.toList.drop (i + 1)) (u - 1) d = R) := by
          have := HA.out
          rw [HDR.out, rkL_u hc] at this
          unfold Hid; omega
        have hu1 : 0 ≤ u - 1 := by have := HUN.out; omega
        have hd1 : 0 ≤ d := by have := HD.out; have := HUN.out; omega
        have hrp := (rkL_bd a b k l hab (s.data.toList.drop (i + 1)) (u - 1) d (by omega) hdb).1
        have hvb := WV_bd a b k l u (d - 1) hab hua (by omega)
        have hsum : acc + WV a b k l u (d - 1) ≤ 43980465111040 := by have := HRN.out; omega
        have HWD : Hid (∀ W, SF a b mb k l u d (WV a b k l) w W → Calls Try.prog 125 #[.agg #[.int .i64 u, .int .i64 d], .int .u8 68] W fun e w' => e = .returned (.agg #[.int .i64 u, .int .i64 (d - 1)]) ∧ SF a b mb k l u d (WV a b k l) w w') :=
          Lib.hid fun W hW => (without_d u d 68 W rfl (by omega) (by omega)).mono fun _ _ ⟨h1, h2⟩ => ⟨h1, hW.below h2⟩
        have HDN : Hid (∀ W, SF a b mb k l u d (WV a b k l) w W → Calls Try.prog 124 #[.agg #[.int .i64 a, .int .i64 b, .int .i64 k, .int .i64 l, .map (some mb)], .agg #[.int .i64 u, .int .i64 (d - 1)]] W fun e w' => e = .returned (.int .i64 (WV a b k l u (d - 1))) ∧ SF a b mb k l u d (WV a b k l) w w') :=
          Lib.hid fun W hW => (ways_at a b mb k l u (d - 1) W hab hk (by omega) (by omega) hW.map).mono fun _ _ ⟨h1, h2, h3⟩ => ⟨h1, hW.step h2 h3⟩
        generalize WV a b k l u (d - 1) = y at *
        clear hc hrp hdl hcl
        go_wp2
        have i9 : IntKind.i64.wrap (acc + y) = acc + y := IntWalk.i64_in _ (by omega)
        go_region_held3 (fun W => ((W.cell? ⟨w.heap.size, 0, none⟩ = some (.int .i64 a) ∧ W.cell? ⟨w.heap.size, 1, none⟩ = some (.int .i64 b) ∧ W.cell? ⟨w.heap.size, 2, none⟩ = some (.int .i64 k) ∧ W.cell? ⟨w.heap.size, 3, none⟩ = some (.int .i64 l) ∧ W.cell? ⟨w.heap.size, 4, none⟩ = some (.map (some mb)) ∧ W.cell? ⟨w.heap.size + 1, 0, none⟩ = some (.int .i64 u) ∧ W.cell? ⟨w.heap.size + 1, 1, none⟩ = some (.int .i64 d)) ∧ w.heap.size + 2 ≤ W.heap.size ∧ mb < w.heap.size ∧ Stays w mb (WV a b k l) W) ∧ W.frozen? ⟨w.heap.size + 1, 0, none⟩ = false ∧ W.frozen? ⟨w.heap.size + 1, 1, none⟩ = false) (first | exact HS.out.drew | assumption) (first | (go_at_call 125; refine (HWD.out _ (by assumption)).mono ?_; rintro e w' ⟨rfl, hS'⟩) | (go_at_call 124; refine (HDN.out _ (by assumption)).mono ?_; rintro e w' ⟨rfl, hS'⟩))
        clear i9
        go_wp2
        refine wp_region_still_tail 4 (by kernel_rfl) (by kernel_rfl) ?_
        simp only [List.take_succ_cons, List.take_zero, List.drop_succ_cons, List.drop_zero]
        iterate 4 still_step
        refine wpStill_nil ?_
        change wpList _ _ _ _ _ (World.drew _)
        go_wp2_with (go_at_call 125; refine (without_uc u d _ _ hb85 (by omega) (by omega)).mono ?_; rintro e w3 ⟨rfl, hb3⟩; have hS3 : SF a b mb k l u d (WV a b k l) w w3 := SF.below (SF.drew (by assumption)) hb3; obtain ⟨⟨⟨z0, z1, z2, z3, z4, z5, z6⟩, zr⟩, zf0, zf1⟩ := id hS3; clear zr)
        have hS4 := hS3.store (u - 1) d
        go_roundw
        case rel => exact ⟨i + 1, acc + y, u - 1, d, by omega, by go_num, rfl, by omega, HRN, HUN, Lib.hid (by have := HD.out; omega), by omega, hdb, Lib.hid hS4⟩
        case measure => first | (simp [intOf]; done) | (simp [intOf]; omega)
      · have hc' : (s[i] == 85) = false := by simpa using hc
        have hb85 : ((s[i].toNat : Int) == 85) = false := by
          have h85 : s[i].toNat ≠ 85 := by simpa [← UInt8.toNat_inj] using hc
          simp; omega
        have HUN : Hid (u = (cntU (s.data.toList.drop (i + 1)) : Nat)) := by
          have := HU.out
          rw [HDR.out, cntU_cons, hc'] at this
          unfold Hid; simpa using this
        have HRN : Hid (acc + rkL (WV a b k l) (s.data.toList.drop (i + 1)) u (d - 1) = R) := by
          have := HA.out
          rw [HDR.out, rkL_d hc'] at this
          exact this
        have hu1 : 0 ≤ u := by have := HUN.out; omega
        have hd1 : 0 ≤ d - 1 := by have := HD.out; have := HUN.out; omega
        clear hc hc' hdl hcl
        have hSr := HS.out.drew
        obtain ⟨⟨⟨z0, z1, z2, z3, z4, z5, z6⟩, zr⟩, zf0, zf1⟩ := id HS.out
        clear zr
        go_wp2
        refine wp_region_still_tail 4 (by kernel_rfl) (by kernel_rfl) ?_
        simp only [List.take_succ_cons, List.take_zero, List.drop_succ_cons, List.drop_zero]
        iterate 4 still_step
        refine wpStill_nil ?_
        change wpList _ _ _ _ _ (World.drew _)
        clear z0 z1 z2 z3 z4 z5 z6 zf0 zf1
        go_wp2_with (go_at_call 125; refine (without_d u d _ _ hb85 (by omega) (by omega)).mono ?_; rintro e w3 ⟨rfl, hb3⟩; have hS3 : SF a b mb k l u d (WV a b k l) w w3 := hSr.below hb3; obtain ⟨⟨⟨z0, z1, z2, z3, z4, z5, z6⟩, zr⟩, zf0, zf1⟩ := id hS3; clear zr)
        have hS4 := hS3.store u (d - 1)
        go_roundw
        case rel => exact ⟨i + 1, acc, u, d - 1, by omega, by go_num, rfl, hacc, HRN, HUN, Lib.hid (by have := HD.out; omega), hua, by omega, Lib.hid hS4⟩
        case measure => first | (simp [intOf]; done) | (simp [intOf]; omega)
    · have HK : Hid (i = s.size) := by unfold Hid; omega
      go_wp2
      go_ret
      have h9 := HA.out
      rw [HK.out, List.drop_of_length_le (by simp), rkL, Int.add_zero] at h9
      exact SF.fin HS.out h9
end Go.Proofs.Ytlgiamgjimffnaa
