/- The program's waysOnBetween. -/
import Derived.Test.YtlgiamgjimffnaaAbMath
import Derived.Test.YtlgiamgjimffnaaStrExt
import Derived.Test.YtlgiamgjimffnaaHoldI
import Derived.Test.YtlgiamgjimffnaaJoinTwo
import Derived.Test.YtlgiamgjimffnaaScalars
namespace Go.Proofs.Ytlgiamgjimffnaa
open Go.RowKit
set_option linter.unusedVariables false
structure BX (w : World) (U D lo hi : Int) (W : World) : Prop where
  c0 : W.cell? ⟨w.heap.size, 0, none⟩ = some (.int .i64 U)
  c1 : W.cell? ⟨w.heap.size, 1, none⟩ = some (.int .i64 D)
  c2 : W.cell? ⟨w.heap.size + 1, 0, none⟩ = some (.int .i64 lo)
  c3 : W.cell? ⟨w.heap.size + 1, 1, none⟩ = some (.int .i64 hi)
  sz : w.heap.size + 2 ≤ W.heap.size
  bl : Below w.heap.size w W
theorem BX.start (w : World) (U D lo hi : Int) : BX w U D lo hi ((w.alloc (.cells #[.int .i64 U, .int .i64 D] 61)).alloc (.cells #[.int .i64 lo, .int .i64 hi] 82)) :=
  ⟨by simp [go_sem], by simp [go_sem], by simp [go_sem], by simp [go_sem], by simp, ((Below.refl _ _).alloc (Nat.le_refl _) _).alloc (by simp) _⟩
theorem BX.below {w W W' : World} {U D lo hi : Int} (h : BX w U D lo hi W) (hb : Below W.heap.size W W') : BX w U D lo hi W' := by
  have hz := h.sz
  exact ⟨(hb.cell (p := ⟨w.heap.size, 0, none⟩) (show w.heap.size < W.heap.size by omega)).trans h.c0, (hb.cell (p := ⟨w.heap.size, 1, none⟩) (show w.heap.size < W.heap.size by omega)).trans h.c1,
    (hb.cell (p := ⟨w.heap.size + 1, 0, none⟩) (show w.heap.size + 1 < W.heap.size by omega)).trans h.c2, (hb.cell (p := ⟨w.heap.size + 1, 1, none⟩) (show w.heap.size + 1 < W.heap.size by omega)).trans h.c3,
    Nat.le_trans hz hb.size, h.bl.trans (hb.mono (by omega))⟩
theorem BX.grown {w W W' : World} {U D lo hi : Int} {row : Option Nat} (h : BX w U D lo hi W) (hg : W.grownBy W' row) (hr : ∀ q, row = some q → w.heap.size + 2 ≤ q) : BX w U D lo hi W' := by
  have hz := h.sz
  have e : ∀ g o, g < w.heap.size + 2 → W'.cell? ⟨g, o, none⟩ = W.cell? ⟨g, o, none⟩ := fun g o hgl => by
    unfold World.cell?
    rw [hg.block g (by omega) (fun e => by have := hr g e.symm; omega)]
  exact ⟨(e _ _ (by omega)).trans h.c0, (e _ _ (by omega)).trans h.c1, (e _ _ (by omega)).trans h.c2, (e _ _ (by omega)).trans h.c3, Nat.le_trans hz hg.size, h.bl.grown hg (by omega) (fun q hq => by have := hr q hq; omega)⟩
set_option maxRecDepth 100000 in
set_option maxHeartbeats 2000000 in
theorem waysOn_yy (x : ByteArray) (U D lo hi : Int) (up dn : Nat) (w : World) (hs : x.size ≤ 40) (hx : x.size = up + dn)
    (hE : Hid (∀ w, Calls Try.prog 135 #[.string x] w (Ret w (.tuple #[.int .i64 ((up : Int) - dn), .bool true]))))
    (hu : 0 ≤ U ∧ U ≤ 40) (hd : 0 ≤ D ∧ D ≤ 40) (hl : -40 ≤ lo ∧ lo ≤ 40) (hh : -40 ≤ hi ∧ hi ≤ 40) (cd : (x.size : Int) - up < D) (qd : inB ((up : Int) - dn - 1) lo hi = true) (cu : (up : Int) < U) (qu : inB ((up : Int) - dn + 1) lo hi = true) :
    Calls Try.prog 110 #[.string x, .agg #[.int .i64 U, .int .i64 D], .agg #[.int .i64 lo, .int .i64 hi]] w fun e w' => ∃ v, e = .returned v ∧ SRow w' w.heap.size v ([x ++ (⟨#[68]⟩ : ByteArray), x ++ (⟨#[85]⟩ : ByteArray)]) ∧ Below w.heap.size w w' := by
  have HE := hE
  have HD : Hid (∀ w : World, Calls Try.prog 106 #[.agg #[.int .i64 lo, .int .i64 hi], .slice (some ⟨w.heap.size, 0, none⟩) 1 1] (w.alloc (.cells #[.int .i64 ((up : Int) - dn - 1)] 3)) fun e w' => e = .returned (.bool (inB ((up : Int) - dn - 1) lo hi)) ∧ Below w.heap.size w w') := Lib.hid (holds_one _ _ _)
  have HU : Hid (∀ w : World, Calls Try.prog 106 #[.agg #[.int .i64 lo, .int .i64 hi], .slice (some ⟨w.heap.size, 0, none⟩) 1 1] (w.alloc (.cells #[.int .i64 ((up : Int) - dn + 1)] 3)) fun e w' => e = .returned (.bool (inB ((up : Int) - dn + 1) lo hi)) ∧ Below w.heap.size w w') := Lib.hid (holds_one _ _ _)
  have HJ1 : Hid (∀ w : World, Calls Try.prog 129 #[.slice (some ⟨w.heap.size, 0, none⟩) 2 2] (w.alloc (.cells #[.string x, .string ⟨#[68]⟩] 9)) fun e w' => e = .returned (.string (x ++ ⟨#[68]⟩)) ∧ Below w.heap.size w w') := Lib.hid (join_two _ _ (by omega) (by decide))
  have HJ2 : Hid (∀ w : World, Calls Try.prog 129 #[.slice (some ⟨w.heap.size, 0, none⟩) 2 2] (w.alloc (.cells #[.string x, .string ⟨#[85]⟩] 9)) fun e w' => e = .returned (.string (x ++ ⟨#[85]⟩)) ∧ Below w.heap.size w w') := Lib.hid (join_two _ _ (by omega) (by decide))
  have hbx := BX.start w U D lo hi
  have hq : ((x.size : Int) + ((up : Int) - dn)).tdiv 2 = up := by rw [hx, show ((up + dn : Nat) : Int) + ((up : Int) - dn) = 2 * up by omega]; exact Int.mul_tdiv_cancel_left _ (by omega)
  have hxi : (x.size : Int) = up + dn := by omega
  obtain ⟨u1, u2⟩ := hu
  obtain ⟨d1, d2⟩ := hd
  obtain ⟨l1, l2⟩ := hl
  obtain ⟨g1, g2⟩ := hh
  clear hE hx
  generalize x ++ (⟨#[68]⟩ : ByteArray) = xD at *
  generalize x ++ (⟨#[85]⟩ : ByteArray) = xU at *
  rw [qd] at HD
  rw [qu] at HU
  have tok1 : True := trivial
  have tok2 : True := trivial
  have tok3 : True := trivial
  have tok4 : True := trivial
  have tok5 : True := trivial
  have tok6 : True := trivial
  go_enter Try.func110, Try.ntmps110
  go_wp2_with (first
    | (go_at_call 135; refine (HE.out _).mono ?_; rintro e w1 ⟨rfl, hb1⟩; replace hbx := hbx.below hb1; have k0 := hbx.c0; have k1 := hbx.c1; have k2 := hbx.c2; have k3 := hbx.c3; have hrow := SRow.nil w1 (w.heap.size + 2); clear hb1)
    | (have _t := tok1; go_at_call 106; clear _t tok1; refine (HD.out _).mono ?_; rintro e w2 ⟨rfl, hb1⟩; replace hbx := hbx.below hb1; replace hrow := hrow.below hb1; have k0 := hbx.c0; have k1 := hbx.c1; have k2 := hbx.c2; have k3 := hbx.c3; clear hb1)
    | (have _t := tok2; go_at_call 129; clear _t tok2; refine (HJ1.out _).mono ?_; rintro e w3 ⟨rfl, hb1⟩; replace hbx := hbx.below hb1; replace hrow := hrow.below hb1; have k0 := hbx.c0; have k1 := hbx.c1; have k2 := hbx.c2; have k3 := hbx.c3; have hsz3 := hbx.sz; clear hb1)
    | (have _t := tok3; at_builtin; clear _t tok3; refine wpList_pushS (.tmp 35) (.tmp 39) rfl rfl (w.heap.size + 2) _ [] rfl hrow rfl (by simp) (by omega) ?_; intro v' w' hrow' hg' hat'; replace hbx := hbx.grown hg' (fun q hq => (hrow.blk q hq).1); have k0 := hbx.c0; have k1 := hbx.c1; have k2 := hbx.c2; have k3 := hbx.c3; obtain ⟨A2, cc2, rfl⟩ := hrow'.shape; clear hrow; have hrow := hrow'; clear hrow' hg' hat')
    | (have _t := tok4; go_at_call 106; clear _t tok4; refine (HU.out _).mono ?_; rintro e w2 ⟨rfl, hb1⟩; replace hbx := hbx.below hb1; replace hrow := hrow.below hb1; have k0 := hbx.c0; have k1 := hbx.c1; have k2 := hbx.c2; have k3 := hbx.c3; clear hb1)
    | (have _t := tok5; go_at_call 129; clear _t tok5; refine (HJ2.out _).mono ?_; rintro e w3 ⟨rfl, hb1⟩; replace hbx := hbx.below hb1; replace hrow := hrow.below hb1; have k0 := hbx.c0; have k1 := hbx.c1; have k2 := hbx.c2; have k3 := hbx.c3; have hsz3 := hbx.sz; clear hb1)
    | (have _t := tok6; at_builtin; clear _t tok6; refine wpList_pushS (.tmp 52) (.tmp 56) rfl rfl (w.heap.size + 2) _ [xD] rfl hrow rfl (by simp) (by omega) ?_; intro v' w' hrow' hg' hat'; replace hbx := hbx.grown hg' (fun q hq => (hrow.blk q hq).1); have k0 := hbx.c0; have k1 := hbx.c1; have k2 := hbx.c2; have k3 := hbx.c3; obtain ⟨A2, cc2, rfl⟩ := hrow'.shape; clear hrow; have hrow := hrow'; clear hrow' hg' hat'))
  go_ret
  exact ⟨_, rfl, hrow.mono (by omega), hbx.bl⟩
set_option maxRecDepth 100000 in
set_option maxHeartbeats 2000000 in
theorem waysOn_yn (x : ByteArray) (U D lo hi : Int) (up dn : Nat) (w : World) (hs : x.size ≤ 40) (hx : x.size = up + dn)
    (hE : Hid (∀ w, Calls Try.prog 135 #[.string x] w (Ret w (.tuple #[.int .i64 ((up : Int) - dn), .bool true]))))
    (hu : 0 ≤ U ∧ U ≤ 40) (hd : 0 ≤ D ∧ D ≤ 40) (hl : -40 ≤ lo ∧ lo ≤ 40) (hh : -40 ≤ hi ∧ hi ≤ 40) (cd : (x.size : Int) - up < D) (qd : inB ((up : Int) - dn - 1) lo hi = true) (cu : ¬ (up : Int) < U) :
    Calls Try.prog 110 #[.string x, .agg #[.int .i64 U, .int .i64 D], .agg #[.int .i64 lo, .int .i64 hi]] w fun e w' => ∃ v, e = .returned v ∧ SRow w' w.heap.size v ([x ++ (⟨#[68]⟩ : ByteArray)]) ∧ Below w.heap.size w w' := by
  have HE := hE
  have HD : Hid (∀ w : World, Calls Try.prog 106 #[.agg #[.int .i64 lo, .int .i64 hi], .slice (some ⟨w.heap.size, 0, none⟩) 1 1] (w.alloc (.cells #[.int .i64 ((up : Int) - dn - 1)] 3)) fun e w' => e = .returned (.bool (inB ((up : Int) - dn - 1) lo hi)) ∧ Below w.heap.size w w') := Lib.hid (holds_one _ _ _)
  have HU : Hid (∀ w : World, Calls Try.prog 106 #[.agg #[.int .i64 lo, .int .i64 hi], .slice (some ⟨w.heap.size, 0, none⟩) 1 1] (w.alloc (.cells #[.int .i64 ((up : Int) - dn + 1)] 3)) fun e w' => e = .returned (.bool (inB ((up : Int) - dn + 1) lo hi)) ∧ Below w.heap.size w w') := Lib.hid (holds_one _ _ _)
  have HJ1 : Hid (∀ w : World, Calls Try.prog 129 #[.slice (some ⟨w.heap.size, 0, none⟩) 2 2] (w.alloc (.cells #[.string x, .string ⟨#[68]⟩] 9)) fun e w' => e = .returned (.string (x ++ ⟨#[68]⟩)) ∧ Below w.heap.size w w') := Lib.hid (join_two _ _ (by omega) (by decide))
  have HJ2 : Hid (∀ w : World, Calls Try.prog 129 #[.slice (some ⟨w.heap.size, 0, none⟩) 2 2] (w.alloc (.cells #[.string x, .string ⟨#[85]⟩] 9)) fun e w' => e = .returned (.string (x ++ ⟨#[85]⟩)) ∧ Below w.heap.size w w') := Lib.hid (join_two _ _ (by omega) (by decide))
  have hbx := BX.start w U D lo hi
  have hq : ((x.size : Int) + ((up : Int) - dn)).tdiv 2 = up := by rw [hx, show ((up + dn : Nat) : Int) + ((up : Int) - dn) = 2 * up by omega]; exact Int.mul_tdiv_cancel_left _ (by omega)
  have hxi : (x.size : Int) = up + dn := by omega
  obtain ⟨u1, u2⟩ := hu
  obtain ⟨d1, d2⟩ := hd
  obtain ⟨l1, l2⟩ := hl
  obtain ⟨g1, g2⟩ := hh
  clear hE hx
  generalize x ++ (⟨#[68]⟩ : ByteArray) = xD at *
  generalize x ++ (⟨#[85]⟩ : ByteArray) = xU at *
  rw [qd] at HD
  have tok1 : True := trivial
  have tok2 : True := trivial
  have tok3 : True := trivial
  have tok4 : True := trivial
  have tok5 : True := trivial
  have tok6 : True := trivial
  go_enter Try.func110, Try.ntmps110
  go_wp2_with (first
    | (go_at_call 135; refine (HE.out _).mono ?_; rintro e w1 ⟨rfl, hb1⟩; replace hbx := hbx.below hb1; have k0 := hbx.c0; have k1 := hbx.c1; have k2 := hbx.c2; have k3 := hbx.c3; have hrow := SRow.nil w1 (w.heap.size + 2); clear hb1)
    | (have _t := tok1; go_at_call 106; clear _t tok1; refine (HD.out _).mono ?_; rintro e w2 ⟨rfl, hb1⟩; replace hbx := hbx.below hb1; replace hrow := hrow.below hb1; have k0 := hbx.c0; have k1 := hbx.c1; have k2 := hbx.c2; have k3 := hbx.c3; clear hb1)
    | (have _t := tok2; go_at_call 129; clear _t tok2; refine (HJ1.out _).mono ?_; rintro e w3 ⟨rfl, hb1⟩; replace hbx := hbx.below hb1; replace hrow := hrow.below hb1; have k0 := hbx.c0; have k1 := hbx.c1; have k2 := hbx.c2; have k3 := hbx.c3; have hsz3 := hbx.sz; clear hb1)
    | (have _t := tok3; at_builtin; clear _t tok3; refine wpList_pushS (.tmp 35) (.tmp 39) rfl rfl (w.heap.size + 2) _ [] rfl hrow rfl (by simp) (by omega) ?_; intro v' w' hrow' hg' hat'; replace hbx := hbx.grown hg' (fun q hq => (hrow.blk q hq).1); have k0 := hbx.c0; have k1 := hbx.c1; have k2 := hbx.c2; have k3 := hbx.c3; obtain ⟨A2, cc2, rfl⟩ := hrow'.shape; clear hrow; have hrow := hrow'; clear hrow' hg' hat'))
  go_ret
  exact ⟨_, rfl, hrow.mono (by omega), hbx.bl⟩
set_option maxRecDepth 100000 in
set_option maxHeartbeats 2000000 in
theorem waysOn_yo (x : ByteArray) (U D lo hi : Int) (up dn : Nat) (w : World) (hs : x.size ≤ 40) (hx : x.size = up + dn)
    (hE : Hid (∀ w, Calls Try.prog 135 #[.string x] w (Ret w (.tuple #[.int .i64 ((up : Int) - dn), .bool true]))))
    (hu : 0 ≤ U ∧ U ≤ 40) (hd : 0 ≤ D ∧ D ≤ 40) (hl : -40 ≤ lo ∧ lo ≤ 40) (hh : -40 ≤ hi ∧ hi ≤ 40) (cd : (x.size : Int) - up < D) (qd : inB ((up : Int) - dn - 1) lo hi = true) (cu : (up : Int) < U) (qu : inB ((up : Int) - dn + 1) lo hi = false) :
    Calls Try.prog 110 #[.string x, .agg #[.int .i64 U, .int .i64 D], .agg #[.int .i64 lo, .int .i64 hi]] w fun e w' => ∃ v, e = .returned v ∧ SRow w' w.heap.size v ([x ++ (⟨#[68]⟩ : ByteArray)]) ∧ Below w.heap.size w w' := by
  have HE := hE
  have HD : Hid (∀ w : World, Calls Try.prog 106 #[.agg #[.int .i64 lo, .int .i64 hi], .slice (some ⟨w.heap.size, 0, none⟩) 1 1] (w.alloc (.cells #[.int .i64 ((up : Int) - dn - 1)] 3)) fun e w' => e = .returned (.bool (inB ((up : Int) - dn - 1) lo hi)) ∧ Below w.heap.size w w') := Lib.hid (holds_one _ _ _)
  have HU : Hid (∀ w : World, Calls Try.prog 106 #[.agg #[.int .i64 lo, .int .i64 hi], .slice (some ⟨w.heap.size, 0, none⟩) 1 1] (w.alloc (.cells #[.int .i64 ((up : Int) - dn + 1)] 3)) fun e w' => e = .returned (.bool (inB ((up : Int) - dn + 1) lo hi)) ∧ Below w.heap.size w w') := Lib.hid (holds_one _ _ _)
  have HJ1 : Hid (∀ w : World, Calls Try.prog 129 #[.slice (some ⟨w.heap.size, 0, none⟩) 2 2] (w.alloc (.cells #[.string x, .string ⟨#[68]⟩] 9)) fun e w' => e = .returned (.string (x ++ ⟨#[68]⟩)) ∧ Below w.heap.size w w') := Lib.hid (join_two _ _ (by omega) (by decide))
  have HJ2 : Hid (∀ w : World, Calls Try.prog 129 #[.slice (some ⟨w.heap.size, 0, none⟩) 2 2] (w.alloc (.cells #[.string x, .string ⟨#[85]⟩] 9)) fun e w' => e = .returned (.string (x ++ ⟨#[85]⟩)) ∧ Below w.heap.size w w') := Lib.hid (join_two _ _ (by omega) (by decide))
  have hbx := BX.start w U D lo hi
  have hq : ((x.size : Int) + ((up : Int) - dn)).tdiv 2 = up := by rw [hx, show ((up + dn : Nat) : Int) + ((up : Int) - dn) = 2 * up by omega]; exact Int.mul_tdiv_cancel_left _ (by omega)
  have hxi : (x.size : Int) = up + dn := by omega
  obtain ⟨u1, u2⟩ := hu
  obtain ⟨d1, d2⟩ := hd
  obtain ⟨l1, l2⟩ := hl
  obtain ⟨g1, g2⟩ := hh
  clear hE hx
  generalize x ++ (⟨#[68]⟩ : ByteArray) = xD at *
  generalize x ++ (⟨#[85]⟩ : ByteArray) = xU at *
  rw [qd] at HD
  rw [qu] at HU
  have tok1 : True := trivial
  have tok2 : True := trivial
  have tok3 : True := trivial
  have tok4 : True := trivial
  have tok5 : True := trivial
  have tok6 : True := trivial
  go_enter Try.func110, Try.ntmps110
  go_wp2_with (first
    | (go_at_call 135; refine (HE.out _).mono ?_; rintro e w1 ⟨rfl, hb1⟩; replace hbx := hbx.below hb1; have k0 := hbx.c0; have k1 := hbx.c1; have k2 := hbx.c2; have k3 := hbx.c3; have hrow := SRow.nil w1 (w.heap.size + 2); clear hb1)
    | (have _t := tok1; go_at_call 106; clear _t tok1; refine (HD.out _).mono ?_; rintro e w2 ⟨rfl, hb1⟩; replace hbx := hbx.below hb1; replace hrow := hrow.below hb1; have k0 := hbx.c0; have k1 := hbx.c1; have k2 := hbx.c2; have k3 := hbx.c3; clear hb1)
    | (have _t := tok2; go_at_call 129; clear _t tok2; refine (HJ1.out _).mono ?_; rintro e w3 ⟨rfl, hb1⟩; replace hbx := hbx.below hb1; replace hrow := hrow.below hb1; have k0 := hbx.c0; have k1 := hbx.c1; have k2 := hbx.c2; have k3 := hbx.c3; have hsz3 := hbx.sz; clear hb1)
    | (have _t := tok3; at_builtin; clear _t tok3; refine wpList_pushS (.tmp 35) (.tmp 39) rfl rfl (w.heap.size + 2) _ [] rfl hrow rfl (by simp) (by omega) ?_; intro v' w' hrow' hg' hat'; replace hbx := hbx.grown hg' (fun q hq => (hrow.blk q hq).1); have k0 := hbx.c0; have k1 := hbx.c1; have k2 := hbx.c2; have k3 := hbx.c3; obtain ⟨A2, cc2, rfl⟩ := hrow'.shape; clear hrow; have hrow := hrow'; clear hrow' hg' hat')
    | (have _t := tok4; go_at_call 106; clear _t tok4; refine (HU.out _).mono ?_; rintro e w2 ⟨rfl, hb1⟩; replace hbx := hbx.below hb1; replace hrow := hrow.below hb1; have k0 := hbx.c0; have k1 := hbx.c1; have k2 := hbx.c2; have k3 := hbx.c3; clear hb1))
  go_ret
  exact ⟨_, rfl, hrow.mono (by omega), hbx.bl⟩
set_option maxRecDepth 100000 in
set_option maxHeartbeats 2000000 in
theorem waysOn_ny (x : ByteArray) (U D lo hi : Int) (up dn : Nat) (w : World) (hs : x.size ≤ 40) (hx : x.size = up + dn)
    (hE : Hid (∀ w, Calls Try.prog 135 #[.string x] w (Ret w (.tuple #[.int .i64 ((up : Int) - dn), .bool true]))))
    (hu : 0 ≤ U ∧ U ≤ 40) (hd : 0 ≤ D ∧ D ≤ 40) (hl : -40 ≤ lo ∧ lo ≤ 40) (hh : -40 ≤ hi ∧ hi ≤ 40) (cd : ¬ (x.size : Int) - up < D) (cu : (up : Int) < U) (qu : inB ((up : Int) - dn + 1) lo hi = true) :
    Calls Try.prog 110 #[.string x, .agg #[.int .i64 U, .int .i64 D], .agg #[.int .i64 lo, .int .i64 hi]] w fun e w' => ∃ v, e = .returned v ∧ SRow w' w.heap.size v ([x ++ (⟨#[85]⟩ : ByteArray)]) ∧ Below w.heap.size w w' := by
  have HE := hE
  have HD : Hid (∀ w : World, Calls Try.prog 106 #[.agg #[.int .i64 lo, .int .i64 hi], .slice (some ⟨w.heap.size, 0, none⟩) 1 1] (w.alloc (.cells #[.int .i64 ((up : Int) - dn - 1)] 3)) fun e w' => e = .returned (.bool (inB ((up : Int) - dn - 1) lo hi)) ∧ Below w.heap.size w w') := Lib.hid (holds_one _ _ _)
  have HU : Hid (∀ w : World, Calls Try.prog 106 #[.agg #[.int .i64 lo, .int .i64 hi], .slice (some ⟨w.heap.size, 0, none⟩) 1 1] (w.alloc (.cells #[.int .i64 ((up : Int) - dn + 1)] 3)) fun e w' => e = .returned (.bool (inB ((up : Int) - dn + 1) lo hi)) ∧ Below w.heap.size w w') := Lib.hid (holds_one _ _ _)
  have HJ1 : Hid (∀ w : World, Calls Try.prog 129 #[.slice (some ⟨w.heap.size, 0, none⟩) 2 2] (w.alloc (.cells #[.string x, .string ⟨#[68]⟩] 9)) fun e w' => e = .returned (.string (x ++ ⟨#[68]⟩)) ∧ Below w.heap.size w w') := Lib.hid (join_two _ _ (by omega) (by decide))
  have HJ2 : Hid (∀ w : World, Calls Try.prog 129 #[.slice (some ⟨w.heap.size, 0, none⟩) 2 2] (w.alloc (.cells #[.string x, .string ⟨#[85]⟩] 9)) fun e w' => e = .returned (.string (x ++ ⟨#[85]⟩)) ∧ Below w.heap.size w w') := Lib.hid (join_two _ _ (by omega) (by decide))
  have hbx := BX.start w U D lo hi
  have hq : ((x.size : Int) + ((up : Int) - dn)).tdiv 2 = up := by rw [hx, show ((up + dn : Nat) : Int) + ((up : Int) - dn) = 2 * up by omega]; exact Int.mul_tdiv_cancel_left _ (by omega)
  have hxi : (x.size : Int) = up + dn := by omega
  obtain ⟨u1, u2⟩ := hu
  obtain ⟨d1, d2⟩ := hd
  obtain ⟨l1, l2⟩ := hl
  obtain ⟨g1, g2⟩ := hh
  clear hE hx
  generalize x ++ (⟨#[68]⟩ : ByteArray) = xD at *
  generalize x ++ (⟨#[85]⟩ : ByteArray) = xU at *
  rw [qu] at HU
  have tok1 : True := trivial
  have tok2 : True := trivial
  have tok3 : True := trivial
  have tok4 : True := trivial
  have tok5 : True := trivial
  have tok6 : True := trivial
  go_enter Try.func110, Try.ntmps110
  go_wp2_with (first
    | (go_at_call 135; refine (HE.out _).mono ?_; rintro e w1 ⟨rfl, hb1⟩; replace hbx := hbx.below hb1; have k0 := hbx.c0; have k1 := hbx.c1; have k2 := hbx.c2; have k3 := hbx.c3; have hrow := SRow.nil w1 (w.heap.size + 2); clear hb1)
    | (have _t := tok4; go_at_call 106; clear _t tok4; refine (HU.out _).mono ?_; rintro e w2 ⟨rfl, hb1⟩; replace hbx := hbx.below hb1; replace hrow := hrow.below hb1; have k0 := hbx.c0; have k1 := hbx.c1; have k2 := hbx.c2; have k3 := hbx.c3; clear hb1)
    | (have _t := tok5; go_at_call 129; clear _t tok5; refine (HJ2.out _).mono ?_; rintro e w3 ⟨rfl, hb1⟩; replace hbx := hbx.below hb1; replace hrow := hrow.below hb1; have k0 := hbx.c0; have k1 := hbx.c1; have k2 := hbx.c2; have k3 := hbx.c3; have hsz3 := hbx.sz; clear hb1)
    | (have _t := tok6; at_builtin; clear _t tok6; refine wpList_pushS (.tmp 52) (.tmp 56) rfl rfl (w.heap.size + 2) _ [] rfl hrow rfl (by simp) (by omega) ?_; intro v' w' hrow' hg' hat'; replace hbx := hbx.grown hg' (fun q hq => (hrow.blk q hq).1); have k0 := hbx.c0; have k1 := hbx.c1; have k2 := hbx.c2; have k3 := hbx.c3; obtain ⟨A2, cc2, rfl⟩ := hrow'.shape; clear hrow; have hrow := hrow'; clear hrow' hg' hat'))
  go_ret
  exact ⟨_, rfl, hrow.mono (by omega), hbx.bl⟩
set_option maxRecDepth 100000 in
set_option maxHeartbeats 2000000 in
theorem waysOn_nn (x : ByteArray) (U D lo hi : Int) (up dn : Nat) (w : World) (hs : x.size ≤ 40) (hx : x.size = up + dn)
    (hE : Hid (∀ w, Calls Try.prog 135 #[.string x] w (Ret w (.tuple #[.int .i64 ((up : Int) - dn), .bool true]))))
    (hu : 0 ≤ U ∧ U ≤ 40) (hd : 0 ≤ D ∧ D ≤ 40) (hl : -40 ≤ lo ∧ lo ≤ 40) (hh : -40 ≤ hi ∧ hi ≤ 40) (cd : ¬ (x.size : Int) - up < D) (cu : ¬ (up : Int) < U) :
    Calls Try.prog 110 #[.string x, .agg #[.int .i64 U, .int .i64 D], .agg #[.int .i64 lo, .int .i64 hi]] w fun e w' => ∃ v, e = .returned v ∧ SRow w' w.heap.size v ([]) ∧ Below w.heap.size w w' := by
  have HE := hE
  have HD : Hid (∀ w : World, Calls Try.prog 106 #[.agg #[.int .i64 lo, .int .i64 hi], .slice (some ⟨w.heap.size, 0, none⟩) 1 1] (w.alloc (.cells #[.int .i64 ((up : Int) - dn - 1)] 3)) fun e w' => e = .returned (.bool (inB ((up : Int) - dn - 1) lo hi)) ∧ Below w.heap.size w w') := Lib.hid (holds_one _ _ _)
  have HU : Hid (∀ w : World, Calls Try.prog 106 #[.agg #[.int .i64 lo, .int .i64 hi], .slice (some ⟨w.heap.size, 0, none⟩) 1 1] (w.alloc (.cells #[.int .i64 ((up : Int) - dn + 1)] 3)) fun e w' => e = .returned (.bool (inB ((up : Int) - dn + 1) lo hi)) ∧ Below w.heap.size w w') := Lib.hid (holds_one _ _ _)
  have HJ1 : Hid (∀ w : World, Calls Try.prog 129 #[.slice (some ⟨w.heap.size, 0, none⟩) 2 2] (w.alloc (.cells #[.string x, .string ⟨#[68]⟩] 9)) fun e w' => e = .returned (.string (x ++ ⟨#[68]⟩)) ∧ Below w.heap.size w w') := Lib.hid (join_two _ _ (by omega) (by decide))
  have HJ2 : Hid (∀ w : World, Calls Try.prog 129 #[.slice (some ⟨w.heap.size, 0, none⟩) 2 2] (w.alloc (.cells #[.string x, .string ⟨#[85]⟩] 9)) fun e w' => e = .returned (.string (x ++ ⟨#[85]⟩)) ∧ Below w.heap.size w w') := Lib.hid (join_two _ _ (by omega) (by decide))
  have hbx := BX.start w U D lo hi
  have hq : ((x.size : Int) + ((up : Int) - dn)).tdiv 2 = up := by rw [hx, show ((up + dn : Nat) : Int) + ((up : Int) - dn) = 2 * up by omega]; exact Int.mul_tdiv_cancel_left _ (by omega)
  have hxi : (x.size : Int) = up + dn := by omega
  obtain ⟨u1, u2⟩ := hu
  obtain ⟨d1, d2⟩ := hd
  obtain ⟨l1, l2⟩ := hl
  obtain ⟨g1, g2⟩ := hh
  clear hE hx
  generalize x ++ (⟨#[68]⟩ : ByteArray) = xD at *
  generalize x ++ (⟨#[85]⟩ : ByteArray) = xU at *
  have tok1 : True := trivial
  have tok2 : True := trivial
  have tok3 : True := trivial
  have tok4 : True := trivial
  have tok5 : True := trivial
  have tok6 : True := trivial
  go_enter Try.func110, Try.ntmps110
  go_wp2_with (first
    | (go_at_call 135; refine (HE.out _).mono ?_; rintro e w1 ⟨rfl, hb1⟩; replace hbx := hbx.below hb1; have k0 := hbx.c0; have k1 := hbx.c1; have k2 := hbx.c2; have k3 := hbx.c3; have hrow := SRow.nil w1 (w.heap.size + 2); clear hb1))
  go_ret
  exact ⟨_, rfl, hrow.mono (by omega), hbx.bl⟩
set_option maxRecDepth 100000 in
set_option maxHeartbeats 2000000 in
theorem waysOn_no (x : ByteArray) (U D lo hi : Int) (up dn : Nat) (w : World) (hs : x.size ≤ 40) (hx : x.size = up + dn)
    (hE : Hid (∀ w, Calls Try.prog 135 #[.string x] w (Ret w (.tuple #[.int .i64 ((up : Int) - dn), .bool true]))))
    (hu : 0 ≤ U ∧ U ≤ 40) (hd : 0 ≤ D ∧ D ≤ 40) (hl : -40 ≤ lo ∧ lo ≤ 40) (hh : -40 ≤ hi ∧ hi ≤ 40) (cd : ¬ (x.size : Int) - up < D) (cu : (up : Int) < U) (qu : inB ((up : Int) - dn + 1) lo hi = false) :
    Calls Try.prog 110 #[.string x, .agg #[.int .i64 U, .int .i64 D], .agg #[.int .i64 lo, .int .i64 hi]] w fun e w' => ∃ v, e = .returned v ∧ SRow w' w.heap.size v ([]) ∧ Below w.heap.size w w' := by
  have HE := hE
  have HD : Hid (∀ w : World, Calls Try.prog 106 #[.agg #[.int .i64 lo, .int .i64 hi], .slice (some ⟨w.heap.size, 0, none⟩) 1 1] (w.alloc (.cells #[.int .i64 ((up : Int) - dn - 1)] 3)) fun e w' => e = .returned (.bool (inB ((up : Int) - dn - 1) lo hi)) ∧ Below w.heap.size w w') := Lib.hid (holds_one _ _ _)
  have HU : Hid (∀ w : World, Calls Try.prog 106 #[.agg #[.int .i64 lo, .int .i64 hi], .slice (some ⟨w.heap.size, 0, none⟩) 1 1] (w.alloc (.cells #[.int .i64 ((up : Int) - dn + 1)] 3)) fun e w' => e = .returned (.bool (inB ((up : Int) - dn + 1) lo hi)) ∧ Below w.heap.size w w') := Lib.hid (holds_one _ _ _)
  have HJ1 : Hid (∀ w : World, Calls Try.prog 129 #[.slice (some ⟨w.heap.size, 0, none⟩) 2 2] (w.alloc (.cells #[.string x, .string ⟨#[68]⟩] 9)) fun e w' => e = .returned (.string (x ++ ⟨#[68]⟩)) ∧ Below w.heap.size w w') := Lib.hid (join_two _ _ (by omega) (by decide))
  have HJ2 : Hid (∀ w : World, Calls Try.prog 129 #[.slice (some ⟨w.heap.size, 0, none⟩) 2 2] (w.alloc (.cells #[.string x, .string ⟨#[85]⟩] 9)) fun e w' => e = .returned (.string (x ++ ⟨#[85]⟩)) ∧ Below w.heap.size w w') := Lib.hid (join_two _ _ (by omega) (by decide))
  have hbx := BX.start w U D lo hi
  have hq : ((x.size : Int) + ((up : Int) - dn)).tdiv 2 = up := by rw [hx, show ((up + dn : Nat) : Int) + ((up : Int) - dn) = 2 * up by omega]; exact Int.mul_tdiv_cancel_left _ (by omega)
  have hxi : (x.size : Int) = up + dn := by omega
  obtain ⟨u1, u2⟩ := hu
  obtain ⟨d1, d2⟩ := hd
  obtain ⟨l1, l2⟩ := hl
  obtain ⟨g1, g2⟩ := hh
  clear hE hx
  generalize x ++ (⟨#[68]⟩ : ByteArray) = xD at *
  generalize x ++ (⟨#[85]⟩ : ByteArray) = xU at *
  rw [qu] at HU
  have tok1 : True := trivial
  have tok2 : True := trivial
  have tok3 : True := trivial
  have tok4 : True := trivial
  have tok5 : True := trivial
  have tok6 : True := trivial
  go_enter Try.func110, Try.ntmps110
  go_wp2_with (first
    | (go_at_call 135; refine (HE.out _).mono ?_; rintro e w1 ⟨rfl, hb1⟩; replace hbx := hbx.below hb1; have k0 := hbx.c0; have k1 := hbx.c1; have k2 := hbx.c2; have k3 := hbx.c3; have hrow := SRow.nil w1 (w.heap.size + 2); clear hb1)
    | (have _t := tok4; go_at_call 106; clear _t tok4; refine (HU.out _).mono ?_; rintro e w2 ⟨rfl, hb1⟩; replace hbx := hbx.below hb1; replace hrow := hrow.below hb1; have k0 := hbx.c0; have k1 := hbx.c1; have k2 := hbx.c2; have k3 := hbx.c3; clear hb1))
  go_ret
  exact ⟨_, rfl, hrow.mono (by omega), hbx.bl⟩
set_option maxRecDepth 100000 in
set_option maxHeartbeats 2000000 in
theorem waysOn_oy (x : ByteArray) (U D lo hi : Int) (up dn : Nat) (w : World) (hs : x.size ≤ 40) (hx : x.size = up + dn)
    (hE : Hid (∀ w, Calls Try.prog 135 #[.string x] w (Ret w (.tuple #[.int .i64 ((up : Int) - dn), .bool true]))))
    (hu : 0 ≤ U ∧ U ≤ 40) (hd : 0 ≤ D ∧ D ≤ 40) (hl : -40 ≤ lo ∧ lo ≤ 40) (hh : -40 ≤ hi ∧ hi ≤ 40) (cd : (x.size : Int) - up < D) (qd : inB ((up : Int) - dn - 1) lo hi = false) (cu : (up : Int) < U) (qu : inB ((up : Int) - dn + 1) lo hi = true) :
    Calls Try.prog 110 #[.string x, .agg #[.int .i64 U, .int .i64 D], .agg #[.int .i64 lo, .int .i64 hi]] w fun e w' => ∃ v, e = .returned v ∧ SRow w' w.heap.size v ([x ++ (⟨#[85]⟩ : ByteArray)]) ∧ Below w.heap.size w w' := by
  have HE := hE
  have HD : Hid (∀ w : World, Calls Try.prog 106 #[.agg #[.int .i64 lo, .int .i64 hi], .slice (some ⟨w.heap.size, 0, none⟩) 1 1] (w.alloc (.cells #[.int .i64 ((up : Int) - dn - 1)] 3)) fun e w' => e = .returned (.bool (inB ((up : Int) - dn - 1) lo hi)) ∧ Below w.heap.size w w') := Lib.hid (holds_one _ _ _)
  have HU : Hid (∀ w : World, Calls Try.prog 106 #[.agg #[.int .i64 lo, .int .i64 hi], .slice (some ⟨w.heap.size, 0, none⟩) 1 1] (w.alloc (.cells #[.int .i64 ((up : Int) - dn + 1)] 3)) fun e w' => e = .returned (.bool (inB ((up : Int) - dn + 1) lo hi)) ∧ Below w.heap.size w w') := Lib.hid (holds_one _ _ _)
  have HJ1 : Hid (∀ w : World, Calls Try.prog 129 #[.slice (some ⟨w.heap.size, 0, none⟩) 2 2] (w.alloc (.cells #[.string x, .string ⟨#[68]⟩] 9)) fun e w' => e = .returned (.string (x ++ ⟨#[68]⟩)) ∧ Below w.heap.size w w') := Lib.hid (join_two _ _ (by omega) (by decide))
  have HJ2 : Hid (∀ w : World, Calls Try.prog 129 #[.slice (some ⟨w.heap.size, 0, none⟩) 2 2] (w.alloc (.cells #[.string x, .string ⟨#[85]⟩] 9)) fun e w' => e = .returned (.string (x ++ ⟨#[85]⟩)) ∧ Below w.heap.size w w') := Lib.hid (join_two _ _ (by omega) (by decide))
  have hbx := BX.start w U D lo hi
  have hq : ((x.size : Int) + ((up : Int) - dn)).tdiv 2 = up := by rw [hx, show ((up + dn : Nat) : Int) + ((up : Int) - dn) = 2 * up by omega]; exact Int.mul_tdiv_cancel_left _ (by omega)
  have hxi : (x.size : Int) = up + dn := by omega
  obtain ⟨u1, u2⟩ := hu
  obtain ⟨d1, d2⟩ := hd
  obtain ⟨l1, l2⟩ := hl
  obtain ⟨g1, g2⟩ := hh
  clear hE hx
  generalize x ++ (⟨#[68]⟩ : ByteArray) = xD at *
  generalize x ++ (⟨#[85]⟩ : ByteArray) = xU at *
  rw [qd] at HD
  rw [qu] at HU
  have tok1 : True := trivial
  have tok2 : True := trivial
  have tok3 : True := trivial
  have tok4 : True := trivial
  have tok5 : True := trivial
  have tok6 : True := trivial
  go_enter Try.func110, Try.ntmps110
  go_wp2_with (first
    | (go_at_call 135; refine (HE.out _).mono ?_; rintro e w1 ⟨rfl, hb1⟩; replace hbx := hbx.below hb1; have k0 := hbx.c0; have k1 := hbx.c1; have k2 := hbx.c2; have k3 := hbx.c3; have hrow := SRow.nil w1 (w.heap.size + 2); clear hb1)
    | (have _t := tok1; go_at_call 106; clear _t tok1; refine (HD.out _).mono ?_; rintro e w2 ⟨rfl, hb1⟩; replace hbx := hbx.below hb1; replace hrow := hrow.below hb1; have k0 := hbx.c0; have k1 := hbx.c1; have k2 := hbx.c2; have k3 := hbx.c3; clear hb1)
    | (have _t := tok4; go_at_call 106; clear _t tok4; refine (HU.out _).mono ?_; rintro e w2 ⟨rfl, hb1⟩; replace hbx := hbx.below hb1; replace hrow := hrow.below hb1; have k0 := hbx.c0; have k1 := hbx.c1; have k2 := hbx.c2; have k3 := hbx.c3; clear hb1)
    | (have _t := tok5; go_at_call 129; clear _t tok5; refine (HJ2.out _).mono ?_; rintro e w3 ⟨rfl, hb1⟩; replace hbx := hbx.below hb1; replace hrow := hrow.below hb1; have k0 := hbx.c0; have k1 := hbx.c1; have k2 := hbx.c2; have k3 := hbx.c3; have hsz3 := hbx.sz; clear hb1)
    | (have _t := tok6; at_builtin; clear _t tok6; refine wpList_pushS (.tmp 52) (.tmp 56) rfl rfl (w.heap.size + 2) _ [] rfl hrow rfl (by simp) (by omega) ?_; intro v' w' hrow' hg' hat'; replace hbx := hbx.grown hg' (fun q hq => (hrow.blk q hq).1); have k0 := hbx.c0; have k1 := hbx.c1; have k2 := hbx.c2; have k3 := hbx.c3; obtain ⟨A2, cc2, rfl⟩ := hrow'.shape; clear hrow; have hrow := hrow'; clear hrow' hg' hat'))
  go_ret
  exact ⟨_, rfl, hrow.mono (by omega), hbx.bl⟩
set_option maxRecDepth 100000 in
set_option maxHeartbeats 2000000 in
theorem waysOn_on (x : ByteArray) (U D lo hi : Int) (up dn : Nat) (w : World) (hs : x.size ≤ 40) (hx : x.size = up + dn)
    (hE : Hid (∀ w, Calls Try.prog 135 #[.string x] w (Ret w (.tuple #[.int .i64 ((up : Int) - dn), .bool true]))))
    (hu : 0 ≤ U ∧ U ≤ 40) (hd : 0 ≤ D ∧ D ≤ 40) (hl : -40 ≤ lo ∧ lo ≤ 40) (hh : -40 ≤ hi ∧ hi ≤ 40) (cd : (x.size : Int) - up < D) (qd : inB ((up : Int) - dn - 1) lo hi = false) (cu : ¬ (up : Int) < U) :
    Calls Try.prog 110 #[.string x, .agg #[.int .i64 U, .int .i64 D], .agg #[.int .i64 lo, .int .i64 hi]] w fun e w' => ∃ v, e = .returned v ∧ SRow w' w.heap.size v ([]) ∧ Below w.heap.size w w' := by
  have HE := hE
  have HD : Hid (∀ w : World, Calls Try.prog 106 #[.agg #[.int .i64 lo, .int .i64 hi], .slice (some ⟨w.heap.size, 0, none⟩) 1 1] (w.alloc (.cells #[.int .i64 ((up : Int) - dn - 1)] 3)) fun e w' => e = .returned (.bool (inB ((up : Int) - dn - 1) lo hi)) ∧ Below w.heap.size w w') := Lib.hid (holds_one _ _ _)
  have HU : Hid (∀ w : World, Calls Try.prog 106 #[.agg #[.int .i64 lo, .int .i64 hi], .slice (some ⟨w.heap.size, 0, none⟩) 1 1] (w.alloc (.cells #[.int .i64 ((up : Int) - dn + 1)] 3)) fun e w' => e = .returned (.bool (inB ((up : Int) - dn + 1) lo hi)) ∧ Below w.heap.size w w') := Lib.hid (holds_one _ _ _)
  have HJ1 : Hid (∀ w : World, Calls Try.prog 129 #[.slice (some ⟨w.heap.size, 0, none⟩) 2 2] (w.alloc (.cells #[.string x, .string ⟨#[68]⟩] 9)) fun e w' => e = .returned (.string (x ++ ⟨#[68]⟩)) ∧ Below w.heap.size w w') := Lib.hid (join_two _ _ (by omega) (by decide))
  have HJ2 : Hid (∀ w : World, Calls Try.prog 129 #[.slice (some ⟨w.heap.size, 0, none⟩) 2 2] (w.alloc (.cells #[.string x, .string ⟨#[85]⟩] 9)) fun e w' => e = .returned (.string (x ++ ⟨#[85]⟩)) ∧ Below w.heap.size w w') := Lib.hid (join_two _ _ (by omega) (by decide))
  have hbx := BX.start w U D lo hi
  have hq : ((x.size : Int) + ((up : Int) - dn)).tdiv 2 = up := by rw [hx, show ((up + dn : Nat) : Int) + ((up : Int) - dn) = 2 * up by omega]; exact Int.mul_tdiv_cancel_left _ (by omega)
  have hxi : (x.size : Int) = up + dn := by omega
  obtain ⟨u1, u2⟩ := hu
  obtain ⟨d1, d2⟩ := hd
  obtain ⟨l1, l2⟩ := hl
  obtain ⟨g1, g2⟩ := hh
  clear hE hx
  generalize x ++ (⟨#[68]⟩ : ByteArray) = xD at *
  generalize x ++ (⟨#[85]⟩ : ByteArray) = xU at *
  rw [qd] at HD
  have tok1 : True := trivial
  have tok2 : True := trivial
  have tok3 : True := trivial
  have tok4 : True := trivial
  have tok5 : True := trivial
  have tok6 : True := trivial
  go_enter Try.func110, Try.ntmps110
  go_wp2_with (first
    | (go_at_call 135; refine (HE.out _).mono ?_; rintro e w1 ⟨rfl, hb1⟩; replace hbx := hbx.below hb1; have k0 := hbx.c0; have k1 := hbx.c1; have k2 := hbx.c2; have k3 := hbx.c3; have hrow := SRow.nil w1 (w.heap.size + 2); clear hb1)
    | (have _t := tok1; go_at_call 106; clear _t tok1; refine (HD.out _).mono ?_; rintro e w2 ⟨rfl, hb1⟩; replace hbx := hbx.below hb1; replace hrow := hrow.below hb1; have k0 := hbx.c0; have k1 := hbx.c1; have k2 := hbx.c2; have k3 := hbx.c3; clear hb1))
  go_ret
  exact ⟨_, rfl, hrow.mono (by omega), hbx.bl⟩
set_option maxRecDepth 100000 in
set_option maxHeartbeats 2000000 in
theorem waysOn_oo (x : ByteArray) (U D lo hi : Int) (up dn : Nat) (w : World) (hs : x.size ≤ 40) (hx : x.size = up + dn)
    (hE : Hid (∀ w, Calls Try.prog 135 #[.string x] w (Ret w (.tuple #[.int .i64 ((up : Int) - dn), .bool true]))))
    (hu : 0 ≤ U ∧ U ≤ 40) (hd : 0 ≤ D ∧ D ≤ 40) (hl : -40 ≤ lo ∧ lo ≤ 40) (hh : -40 ≤ hi ∧ hi ≤ 40) (cd : (x.size : Int) - up < D) (qd : inB ((up : Int) - dn - 1) lo hi = false) (cu : (up : Int) < U) (qu : inB ((up : Int) - dn + 1) lo hi = false) :
    Calls Try.prog 110 #[.string x, .agg #[.int .i64 U, .int .i64 D], .agg #[.int .i64 lo, .int .i64 hi]] w fun e w' => ∃ v, e = .returned v ∧ SRow w' w.heap.size v ([]) ∧ Below w.heap.size w w' := by
  have HE := hE
  have HD : Hid (∀ w : World, Calls Try.prog 106 #[.agg #[.int .i64 lo, .int .i64 hi], .slice (some ⟨w.heap.size, 0, none⟩) 1 1] (w.alloc (.cells #[.int .i64 ((up : Int) - dn - 1)] 3)) fun e w' => e = .returned (.bool (inB ((up : Int) - dn - 1) lo hi)) ∧ Below w.heap.size w w') := Lib.hid (holds_one _ _ _)
  have HU : Hid (∀ w : World, Calls Try.prog 106 #[.agg #[.int .i64 lo, .int .i64 hi], .slice (some ⟨w.heap.size, 0, none⟩) 1 1] (w.alloc (.cells #[.int .i64 ((up : Int) - dn + 1)] 3)) fun e w' => e = .returned (.bool (inB ((up : Int) - dn + 1) lo hi)) ∧ Below w.heap.size w w') := Lib.hid (holds_one _ _ _)
  have HJ1 : Hid (∀ w : World, Calls Try.prog 129 #[.slice (some ⟨w.heap.size, 0, none⟩) 2 2] (w.alloc (.cells #[.string x, .string ⟨#[68]⟩] 9)) fun e w' => e = .returned (.string (x ++ ⟨#[68]⟩)) ∧ Below w.heap.size w w') := Lib.hid (join_two _ _ (by omega) (by decide))
  have HJ2 : Hid (∀ w : World, Calls Try.prog 129 #[.slice (some ⟨w.heap.size, 0, none⟩) 2 2] (w.alloc (.cells #[.string x, .string ⟨#[85]⟩] 9)) fun e w' => e = .returned (.string (x ++ ⟨#[85]⟩)) ∧ Below w.heap.size w w') := Lib.hid (join_two _ _ (by omega) (by decide))
  have hbx := BX.start w U D lo hi
  have hq : ((x.size : Int) + ((up : Int) - dn)).tdiv 2 = up := by rw [hx, show ((up + dn : Nat) : Int) + ((up : Int) - dn) = 2 * up by omega]; exact Int.mul_tdiv_cancel_left _ (by omega)
  have hxi : (x.size : Int) = up + dn := by omega
  obtain ⟨u1, u2⟩ := hu
  obtain ⟨d1, d2⟩ := hd
  obtain ⟨l1, l2⟩ := hl
  obtain ⟨g1, g2⟩ := hh
  clear hE hx
  generalize x ++ (⟨#[68]⟩ : ByteArray) = xD at *
  generalize x ++ (⟨#[85]⟩ : ByteArray) = xU at *
  rw [qd] at HD
  rw [qu] at HU
  have tok1 : True := trivial
  have tok2 : True := trivial
  have tok3 : True := trivial
  have tok4 : True := trivial
  have tok5 : True := trivial
  have tok6 : True := trivial
  go_enter Try.func110, Try.ntmps110
  go_wp2_with (first
    | (go_at_call 135; refine (HE.out _).mono ?_; rintro e w1 ⟨rfl, hb1⟩; replace hbx := hbx.below hb1; have k0 := hbx.c0; have k1 := hbx.c1; have k2 := hbx.c2; have k3 := hbx.c3; have hrow := SRow.nil w1 (w.heap.size + 2); clear hb1)
    | (have _t := tok1; go_at_call 106; clear _t tok1; refine (HD.out _).mono ?_; rintro e w2 ⟨rfl, hb1⟩; replace hbx := hbx.below hb1; replace hrow := hrow.below hb1; have k0 := hbx.c0; have k1 := hbx.c1; have k2 := hbx.c2; have k3 := hbx.c3; clear hb1)
    | (have _t := tok4; go_at_call 106; clear _t tok4; refine (HU.out _).mono ?_; rintro e w2 ⟨rfl, hb1⟩; replace hbx := hbx.below hb1; replace hrow := hrow.below hb1; have k0 := hbx.c0; have k1 := hbx.c1; have k2 := hbx.c2; have k3 := hbx.c3; clear hb1))
  go_ret
  exact ⟨_, rfl, hrow.mono (by omega), hbx.bl⟩
theorem btL_in {lo hi : Int} : ∀ (n : Nat) (s u d : Int) (p : List UInt8), lo ≤ s ∧ s ≤ hi → p ∈ btL lo hi n s u d → lo ≤ s + upN p - dnN p ∧ s + upN p - dnN p ≤ hi
  | 0, s, u, d, p, hs, h => by
    rw [btL, List.mem_singleton] at h
    subst h
    have h1 : upN [] = 0 := rfl
    have h2 : dnN [] = 0 := rfl
    rw [h1, h2]
    omega
  | n + 1, s, u, d, p, hs, h => by
    rw [btL, List.mem_append] at h
    rcases h with h | h
    · split at h
      · rename_i hq
        rw [List.mem_map] at h
        obtain ⟨q, hq2, rfl⟩ := h
        have := btL_in n (s - 1) u (d - 1) q (by omega) hq2
        have h1 : upN (68 :: q) = upN q := by unfold upN; rw [List.countP_cons]; rfl
        have h2 : dnN (68 :: q) = dnN q + 1 := by unfold dnN; rw [List.countP_cons]; rfl
        rw [h1, h2]
        omega
      · cases h
    · split at h
      · rename_i hq
        rw [List.mem_map] at h
        obtain ⟨q, hq2, rfl⟩ := h
        have := btL_in n (s + 1) (u - 1) d q (by omega) hq2
        have h1 : upN (85 :: q) = upN q + 1 := by unfold upN; rw [List.countP_cons]; rfl
        have h2 : dnN (85 :: q) = dnN q := by unfold dnN; rw [List.countP_cons]; rfl
        rw [h1, h2]
        omega
      · cases h
theorem waysOn_any (x : ByteArray) (U D lo hi : Int) (w : World) (hp : pathB x = true) (hin : lo ≤ (upN x.data.toList : Int) - dnN x.data.toList ∧ (upN x.data.toList : Int) - dnN x.data.toList ≤ hi)
    (hu : 0 ≤ U ∧ U ≤ 40) (hd : 0 ≤ D ∧ D ≤ 40) (hl : -40 ≤ lo ∧ lo ≤ 40) (hh : -40 ≤ hi ∧ hi ≤ 40) :
    Calls Try.prog 110 #[.string x, .agg #[.int .i64 U, .int .i64 D], .agg #[.int .i64 lo, .int .i64 hi]] w fun e w' => ∃ v, e = .returned v ∧ SRow w' w.heap.size v (nxT lo hi U D x) ∧ Below w.heap.size w w' := by
  have h40 := ((pathB_iff x).1 hp).1
  obtain ⟨e1, e2⟩ := path_counts hp
  have hE : Hid (∀ w, Calls Try.prog 135 #[.string x] w (Ret w (.tuple #[.int .i64 ((upN x.data.toList : Int) - dnN x.data.toList), .bool true]))) := Lib.hid fun w => by
    have := endHeight_ret x w (by unfold maxLen; omega)
    rw [endV_yes hp, hp, e1] at this
    exact this
  rw [nxT_eq]
  generalize upN x.data.toList = up at *
  generalize dnN x.data.toList = dn at *
  have qd : inB ((up : Int) - dn - 1) lo hi = decide (lo ≤ (up : Int) - dn - 1) := by
    unfold inB
    rw [decide_eq_true (show (up : Int) - dn - 1 ≤ hi by omega), Bool.and_true]
  have qu : inB ((up : Int) - dn + 1) lo hi = decide ((up : Int) - dn + 1 ≤ hi) := by
    unfold inB
    rw [decide_eq_true (show lo ≤ (up : Int) - dn + 1 by omega), Bool.true_and]
  by_cases cd : (x.size : Int) - up < D
  · by_cases cl : lo ≤ (up : Int) - dn - 1
    · rw [if_pos (by omega)]
      rw [decide_eq_true cl] at qd
      by_cases cu : (up : Int) < U
      · by_cases cm : (up : Int) - dn + 1 ≤ hi
        · rw [if_pos (by omega)]
          rw [decide_eq_true cm] at qu
          exact waysOn_yy x U D lo hi up dn w h40 e2 hE hu hd hl hh cd qd cu qu
        · rw [if_neg (by omega)]
          rw [decide_eq_false cm] at qu
          exact waysOn_yo x U D lo hi up dn w h40 e2 hE hu hd hl hh cd qd cu qu
      · rw [if_neg (by omega)]
        exact waysOn_yn x U D lo hi up dn w h40 e2 hE hu hd hl hh cd qd cu
    · rw [if_neg (by omega)]
      rw [decide_eq_false cl] at qd
      by_cases cu : (up : Int) < U
      · by_cases cm : (up : Int) - dn + 1 ≤ hi
        · rw [if_pos (by omega)]
          rw [decide_eq_true cm] at qu
          exact waysOn_oy x U D lo hi up dn w h40 e2 hE hu hd hl hh cd qd cu qu
        · rw [if_neg (by omega)]
          rw [decide_eq_false cm] at qu
          exact waysOn_oo x U D lo hi up dn w h40 e2 hE hu hd hl hh cd qd cu qu
      · rw [if_neg (by omega)]
        exact waysOn_on x U D lo hi up dn w h40 e2 hE hu hd hl hh cd qd cu
  · rw [if_neg (by omega)]
    by_cases cu : (up : Int) < U
    · by_cases cm : (up : Int) - dn + 1 ≤ hi
      · rw [if_pos (by omega)]
        rw [decide_eq_true cm] at qu
        exact waysOn_ny x U D lo hi up dn w h40 e2 hE hu hd hl hh cd cu qu
      · rw [if_neg (by omega)]
        rw [decide_eq_false cm] at qu
        exact waysOn_no x U D lo hi up dn w h40 e2 hE hu hd hl hh cd cu qu
    · rw [if_neg (by omega)]
      exact waysOn_nn x U D lo hi up dn w h40 e2 hE hu hd hl hh cd cu
end Go.Proofs.Ytlgiamgjimffnaa
