/- (ballot).pathOfRank: the walk. -/
import Derived.Test.YtcnggafbdjhagaaPathB
import Derived.Deep.RegionHeld3
import Derived.Deep.QuietTactic
import Derived.BigQuiet
import Derived.RegionTactic
import Derived.ChangeAlike
namespace Go.Proofs.Ytcnggafbdjhagaa
open Go.RowKit
def sliceLenS : Value → Nat | .slice _ n _ => n | _ => 0
theorem SRow.slen {w : World} {B : Nat} {v : Value} {xs : List ByteArray} (h : SRow w B v xs) : sliceLenS v = xs.length := by
  obtain ⟨A, c, rfl⟩ := h.shape
  rfl
theorem PX.low {a b mb g B : Nat} {k l u d : Int} {V : Int → Int → Int} {v : Value} {xs : List ByteArray} {w W : World} (h : PX a b mb g B k l u d V v xs w W) : B ≤ W.heap.size := h.2.2.2.2.1
theorem PX.push {a b mb g B : Nat} {k l u d : Int} {V : Int → Int → Int} {v v2 : Value} {xs ys : List ByteArray} {w W W2 : World} (h : PX a b mb g B k l u d V v xs w W) (hg : W.grownBy W2 v.ownBlock) (hr : SRow W2 B v2 ys) : PX a b mb g B k l u d V v2 ys w W2 :=
  have hlow : ∀ q, v.ownBlock = some q → B ≤ q := fun q hq => (h.row.blk q hq).1
  have hmb : mb < B := by have := h.2.2.1; have := h.2.2.2.1; have := h.2.2.2.2.2.1; omega
  h.grow hg (fun q hq => .inr (hlow q hq)) (h.map.kept hg (fun e => by have := hlow mb e.symm; omega)) hr
theorem bal_below {w w' : World} {o : Obj} {mb : Nat} (hg : (w.alloc o).grownBy w' (some mb)) : w.grownBy w' (some mb) := grown_trans2 (World.grownBy_alloc w o (some mb)) hg
set_option maxHeartbeats 1000000 in
theorem pathBal_no (a b mb : Nat) (k l r : Int) (w : World) (hab : a + b ≤ 40) (hk : 1 ≤ k ∧ k ≤ 5) (h : MapOk w mb (WV a b k l)) (hr : rkOk a b k l r = false) :
    Calls Try.prog 79 #[.agg #[.int .i64 a, .int .i64 b, .int .i64 k, .int .i64 l, .map (some mb)], .int .i64 r] w (BalRet w mb (WV a b k l) (.tuple #[.string (strOf []), .bool false])) := by
  have hm := h.alloc (.cells #[.int .i64 a, .int .i64 b, .int .i64 k, .int .i64 l, .map (some mb)] 65)
  have HM := Lib.hid hm
  have HG := Lib.hid (World.grownBy_alloc w (.cells #[.int .i64 a, .int .i64 b, .int .i64 k, .int .i64 l, .map (some mb)] 65) (some mb))
  by_cases hneg : r < 0
  · clear hm h
    go_enter Try.func79, Try.ntmps79
    go_wp2
    go_ret2
    exact ⟨rfl, HM.out, HG.out⟩
  · have hge : WV a b k l a b ≤ r := by
      unfold rkOk at hr
      rw [decide_eq_true (by omega), Bool.true_and, decide_eq_false_iff_not] at hr
      omega
    have HW : Hid (∀ w, MapOk w mb (WV a b k l) → Calls Try.prog 91 #[.agg #[.int .i64 a, .int .i64 b, .int .i64 k, .int .i64 l, .map (some mb)], .agg #[.int .i64 a, .int .i64 b]] w (WaysRet w mb (WV a b k l) (WV a b k l a b))) :=
      Lib.hid fun w hm => ways_at a b mb k l a b w hab hk (by omega) (by omega) hm
    have hbd := WV_bd a b k l a b hab (Int.le_refl _) (Int.le_refl _)
    generalize hx : WV a b k l a b = x at *
    have HX := Lib.hid hx
    clear hm h hx hr
    go_enter Try.func79, Try.ntmps79
    go_wp2_with (go_at_call 91; refine (HW.out _ HM.out).mono ?_; rintro e w1 ⟨rfl, hm1, hg1⟩)
    go_ret2
    exact ⟨rfl, hm1, bal_below hg1⟩
set_option maxRecDepth 100000 in
set_option maxHeartbeats 4000000 in
theorem pathBal_yes (a b mb : Nat) (k l r : Int) (w : World) (hab : a + b ≤ 40) (hk : 1 ≤ k ∧ k ≤ 5) (h : MapOk w mb (WV a b k l)) (hr : RAt a b k l (a + b) a b r) :
    Calls Try.prog 79 #[.agg #[.int .i64 a, .int .i64 b, .int .i64 k, .int .i64 l, .map (some mb)], .int .i64 r] w (BalRet w mb (WV a b k l) (.tuple #[.string (strOf (porB (WV a b k l) (a + b) a b r)), .bool true])) := by
  have hm := h.alloc (.cells #[.int .i64 a, .int .i64 b, .int .i64 k, .int .i64 l, .map (some mb)] 65)
  have HM := Lib.hid hm
  have hml := h.lt
  have hr0 := hr.r0
  have hrl := hr.lt
  have HW : Hid (∀ w, MapOk w mb (WV a b k l) → Calls Try.prog 91 #[.agg #[.int .i64 a, .int .i64 b, .int .i64 k, .int .i64 l, .map (some mb)], .agg #[.int .i64 a, .int .i64 b]] w (WaysRet w mb (WV a b k l) (WV a b k l a b))) :=
    Lib.hid fun w hm => ways_at a b mb k l a b w hab hk (by omega) (by omega) hm
  have hbd := WV_bd a b k l a b hab (Int.le_refl _) (Int.le_refl _)
  have HN : Hid ([] ++ porB (WV a b k l) (a + b) a b r = porB (WV a b k l) (a + b) a b r) := Lib.hid rfl
  generalize hNN : porB (WV a b k l) (a + b) a b r = N at *
  have HN2 : Hid ([] ++ porB (WV a b k l) (a + b) a b r = N) := Lib.hid hNN
  clear hm h HN hNN
  generalize hx : WV a b k l a b = x at HW hrl hbd
  have HX := Lib.hid hx
  clear hx
  go_enter Try.func79, Try.ntmps79
  go_wp2_with (go_at_call 91; refine (HW.out _ HM.out).mono ?_; rintro e w1 ⟨rfl, hm1, hg1⟩; have c0 := cell_grown hg1 (b := w.heap.size) (by simp) (by intro e; injection e with e; omega) 0; have c1 := cell_grown hg1 (b := w.heap.size) (by simp) (by intro e; injection e with e; omega) 1; have c2 := cell_grown hg1 (b := w.heap.size) (by simp) (by intro e; injection e with e; omega) 2; have c3 := cell_grown hg1 (b := w.heap.size) (by simp) (by intro e; injection e with e; omega) 3; have c4 := cell_grown hg1 (b := w.heap.size) (by simp) (by intro e; injection e with e; omega) 4)
  generalize hg : w1.heap.size = g at *
  have hG := Lib.hid hg
  have hg1s : w.heap.size < g := by have := hg1.size; simp at this; omega
  have hPX0 : PX a b mb g (g + 1) k l a b (WV a b k l) (.slice none 0 0) (letters []) w (w1.alloc (.cells #[.int .i64 a, .int .i64 b] 62)) := by
    subst hg
    have hA : w.grownBy (w1.alloc (.cells #[.int .i64 a, .int .i64 b] 62)) (some mb) := grown_trans2 (bal_below hg1) (World.grownBy_alloc w1 _ (some mb))
    refine ⟨⟨by simp [go_sem, c0, hg1s], by simp [go_sem, c1, hg1s], by simp [go_sem, c2, hg1s], by simp [go_sem, c3, hg1s], by simp [go_sem, c4, hg1s], by simp [go_sem], by simp [go_sem]⟩, ⟨by simp [go_sem], by simp [go_sem]⟩, hg1s, by omega, by simp, hml, ⟨hm1.alloc _, hA⟩, SRow.nil _ _⟩
  clear c0 c1 c2 c3 c4 hg hg1 hm1
  have HPX0 := Lib.hid hPX0
  clear hPX0
  clear HW HM hr0 hrl hbd HX
  have HR := Lib.hid hr
  clear hr
  go_loopw [1, 6] (fun r0 st wr => ∃ (n : Nat) (u d r : Int) (out : List UInt8), Hid (RAt a b k l n u d r) ∧ r0 = .int .i64 r ∧ Hid (out ++ porB (WV a b k l) n u d r = N) ∧ Hid (out.length + n = a + b) ∧ Hid (PX a b mb g (g + 1) k l u d (WV a b k l) st (letters out) w wr)) (fun _ st _ => a + b - sliceLenS st)
  case atStart => exact ⟨a + b, a, b, r, [], HR, rfl, HN2, Lib.hid (by simp), HPX0⟩
  case round =>
    obtain ⟨n, u, d, r, out, HRA, rfl, HO, HLen, HP⟩ := hrel
    clear HR HN2 HPX0
    have hout : out.length + n = a + b := HLen.out
    obtain ⟨⟨p0, p1, p2, p3, p4, p5, p6⟩, hrest⟩ := HP.out
    clear hrest
    have hsl : sliceLenS u6 = out.length := by rw [SRow.slen HP.out.row, letters_len]
    have HSL := Lib.hid hsl
    clear hsl
    have hu0 := HRA.out.u0
    have hd0 := HRA.out.d0
    have hua := HRA.out.ua
    have hdb := HRA.out.db
    have hr0 := HRA.out.r0
    by_cases hpos : 0 < n
    · obtain ⟨m, rfl⟩ : ∃ m, n = m + 1 := ⟨n - 1, by omega⟩
      have hsum : (m : Int) + 1 = u + d := by have := HRA.out.sum; omega
      have hnz : (u == 0) = false ∨ (u == 0) = true ∧ (d == 0) = false := by
        by_cases e : u = 0
        · exact .inr ⟨by simpa using e, by simp; omega⟩
        · exact .inl (by simpa using e)
      have HWD : Hid (∀ W, PX a b mb g (g + 1) k l u d (WV a b k l) u6 (letters out) w W → Calls Try.prog 92 #[.agg #[.int .i64 u, .int .i64 d], .int .u8 68] W fun e w' => e = .returned (.agg #[.int .i64 u, .int .i64 (d - 1)]) ∧ PX a b mb g (g + 1) k l u d (WV a b k l) u6 (letters out) w w') :=
        Lib.hid fun W hW => (without_d u d 68 W rfl (by omega) (by omega)).mono fun _ _ ⟨h1, h2⟩ => ⟨h1, hW.below h2⟩
      have HDN : Hid (∀ W, PX a b mb g (g + 1) k l u d (WV a b k l) u6 (letters out) w W → Calls Try.prog 91 #[.agg #[.int .i64 a, .int .i64 b, .int .i64 k, .int .i64 l, .map (some mb)], .agg #[.int .i64 u, .int .i64 (d - 1)]] W fun e w' => e = .returned (.int .i64 (WV a b k l u (d - 1))) ∧ PX a b mb g (g + 1) k l u d (WV a b k l) u6 (letters out) w w') :=
        Lib.hid fun W hW => (ways_at a b mb k l u (d - 1) W hab hk (by omega) (by omega) hW.map).mono fun _ _ ⟨h1, h2, h3⟩ => ⟨h1, hW.step h2 h3⟩
      have hvb := WV_bd a b k l u (d - 1) hab hua (by omega)
      have hrlt := HRA.out.lt
      have hvb2 := WV_bd a b k l u d hab hua hdb
      by_cases hlt : r < WV a b k l u (d - 1)
      · have HRD := Lib.hid (HRA.out.down hlt)
        have HPO := Lib.hid (porB_down (n := m) hlt)
        generalize hy : WV a b k l u (d - 1) = y at *
        clear hy
        rcases hnz with q3 | ⟨q3, q4⟩
        all_goals
          go_wp2
          go_region_held3 (fun W => (W.cell? ⟨w.heap.size, 0, none⟩ = some (.int .i64 a) ∧ W.cell? ⟨w.heap.size, 1, none⟩ = some (.int .i64 b) ∧ W.cell? ⟨w.heap.size, 2, none⟩ = some (.int .i64 k) ∧ W.cell? ⟨w.heap.size, 3, none⟩ = some (.int .i64 l) ∧ W.cell? ⟨w.heap.size, 4, none⟩ = some (.map (some mb)) ∧ W.cell? ⟨g, 0, none⟩ = some (.int .i64 u) ∧ W.cell? ⟨g, 1, none⟩ = some (.int .i64 d)) ∧ Rest2 w g mb (g + 1) (WV a b k l) u6 (letters out) W) (first | exact PX.drew HP.out | assumption) (first | (go_at_call 92; refine (HWD.out _ (by assumption)).mono ?_; rintro e w' ⟨rfl, hS'⟩) | (go_at_call 91; refine (HDN.out _ (by assumption)).mono ?_; rintro e w' ⟨rfl, hS'⟩))
          go_wp2_with (first | (at_builtin; refine wpList_pushS (.tmp 31) (.tmp 32) rfl rfl (g + 1) _ (letters out) rfl (PX.row (a := a) (b := b) (mb := mb) (g := g) (k := k) (l := l) (u := u) (d := d) (V := WV a b k l) (w := w) (by assumption)) rfl (by rw [letters_len]; omega) (PX.low (a := a) (b := b) (mb := mb) (g := g) (k := k) (l := l) (u := u) (d := d) (V := WV a b k l) (w := w) (by assumption)) ?_; intro v2 w2 hrow2 hg2 hat2; have hP2 := PX.push (a := a) (b := b) (mb := mb) (g := g) (k := k) (l := l) (u := u) (d := d) (V := WV a b k l) (w := w) (by assumption) hg2 hrow2; obtain ⟨⟨z0, z1, z2, z3, z4, z5, z6⟩, zr⟩ := id hP2; clear zr) | (go_at_call 92; refine (without_d u d 68 _ rfl (by omega) (by omega)).mono ?_; rintro e w3 ⟨rfl, hb3⟩; have hP3 := hP2.below hb3; clear z0 z1 z2 z3 z4 z5 z6; obtain ⟨⟨z0, z1, z2, z3, z4, z5, z6⟩, zr⟩ := id hP3; clear zr; obtain ⟨zf0, zf1⟩ := hP3.room))
          have hP4 := hP3.store u (d - 1)
          go_roundw
          case rel => exact ⟨m, u, d - 1, r, out ++ [68], HRD, rfl, Lib.hid (by rw [← HO.out, HPO.out]; simp), Lib.hid (by simp; omega), Lib.hid (by rw [← letters_snoc]; exact hP4)⟩
          case measure => rw [HSL.out, SRow.slen hrow2, List.length_append, letters_len]; simp; omega
      · have HRU := Lib.hid (HRA.out.up hlt)
        have HPO := Lib.hid (porB_up (n := m) hlt)
        generalize hy : WV a b k l u (d - 1) = y at *
        clear hy
        rcases hnz with q3 | ⟨q3, q4⟩
        all_goals
          go_wp2
          go_region_held3 (fun W => (W.cell? ⟨w.heap.size, 0, none⟩ = some (.int .i64 a) ∧ W.cell? ⟨w.heap.size, 1, none⟩ = some (.int .i64 b) ∧ W.cell? ⟨w.heap.size, 2, none⟩ = some (.int .i64 k) ∧ W.cell? ⟨w.heap.size, 3, none⟩ = some (.int .i64 l) ∧ W.cell? ⟨w.heap.size, 4, none⟩ = some (.map (some mb)) ∧ W.cell? ⟨g, 0, none⟩ = some (.int .i64 u) ∧ W.cell? ⟨g, 1, none⟩ = some (.int .i64 d)) ∧ Rest2 w g mb (g + 1) (WV a b k l) u6 (letters out) W) (first | exact PX.drew HP.out | assumption) (first | (go_at_call 92; refine (HWD.out _ (by assumption)).mono ?_; rintro e w' ⟨rfl, hS'⟩) | (go_at_call 91; refine (HDN.out _ (by assumption)).mono ?_; rintro e w' ⟨rfl, hS'⟩))
          go_wp2_with (first | (at_builtin; refine wpList_pushS (.tmp 36) (.tmp 37) rfl rfl (g + 1) _ (letters out) rfl (PX.row (a := a) (b := b) (mb := mb) (g := g) (k := k) (l := l) (u := u) (d := d) (V := WV a b k l) (w := w) (by assumption)) rfl (by rw [letters_len]; omega) (PX.low (a := a) (b := b) (mb := mb) (g := g) (k := k) (l := l) (u := u) (d := d) (V := WV a b k l) (w := w) (by assumption)) ?_; intro v2 w2 hrow2 hg2 hat2; have hP2 := PX.push (a := a) (b := b) (mb := mb) (g := g) (k := k) (l := l) (u := u) (d := d) (V := WV a b k l) (w := w) (by assumption) hg2 hrow2; obtain ⟨⟨z0, z1, z2, z3, z4, z5, z6⟩, zr⟩ := id hP2; clear zr) | (go_at_call 92; refine (without_u u d _ (by omega) (by omega)).mono ?_; rintro e w3 ⟨rfl, hb3⟩; have hP3 := hP2.below hb3; clear z0 z1 z2 z3 z4 z5 z6; obtain ⟨⟨z0, z1, z2, z3, z4, z5, z6⟩, zr⟩ := id hP3; clear zr; obtain ⟨zf0, zf1⟩ := hP3.room))
          have hP4 := hP3.store (u - 1) d
          go_roundw
          case rel => exact ⟨m, u - 1, d, r - y, out ++ [85], HRU, rfl, Lib.hid (by rw [← HO.out, HPO.out]; simp), Lib.hid (by simp; omega), Lib.hid (by rw [← letters_snoc]; exact hP4)⟩
          case measure => rw [HSL.out, SRow.slen hrow2, List.length_append, letters_len]; simp; omega
    · obtain rfl : n = 0 := by omega
      have hz := HRA.out.zero
      have q3 : (u == 0) = true := by simpa using hz.1
      have q4 : (d == 0) = true := by simpa using hz.2
      have HX : Hid (out = N) := by have := HO.out; unfold Hid; simpa [porB] using this
      have HJ : Hid (∀ W, SRow W (g + 1) u6 (letters out) → Calls Try.prog 82 #[u6] W (Ret W (.string (strOf N)))) := Lib.hid fun W hW => by
        have := joinSteps_any (letters out) u6 (g + 1) W hW (by rw [letters_len]; omega) letters_size
        unfold catB at this
        rw [letters_cat, HX.out] at this
        exact this
      clear hz
      go_wp2_with (go_at_call 82; refine (HJ.out _ HP.out.row).mono ?_; rintro e w3 ⟨rfl, hb3⟩)
      go_ret2
      exact PX.fin HP.out hb3 rfl
theorem pathBal_ret (a b mb : Nat) (k l r : Int) (w : World) (hab : a + b ≤ 40) (hk : 1 ≤ k ∧ k ≤ 5) (h : MapOk w mb (WV a b k l)) :
    Calls Try.prog 79 #[.agg #[.int .i64 a, .int .i64 b, .int .i64 k, .int .i64 l, .map (some mb)], .int .i64 r] w (BalRet w mb (WV a b k l) (.tuple #[.string (rkS a b k l r), .bool (rkOk a b k l r)])) := by
  unfold rkS
  rcases Bool.eq_false_or_eq_true (rkOk a b k l r) with hr | hr
  · rw [hr, if_pos rfl]
    have h2 := hr
    unfold rkOk at h2
    simp at h2
    exact pathBal_yes a b mb k l r w hab hk h ⟨by simp, by omega, by omega, by omega, by omega, h2.1, h2.2⟩
  · rw [hr]
    exact pathBal_no a b mb k l r w hab hk h hr
end Go.Proofs.Ytcnggafbdjhagaa
