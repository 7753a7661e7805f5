/- Pack 10 of what FnBoldPlay needs: BdS, BdD. -/
import Derived.Test.YthgblfldncidnaaKFnBoldPlay9
import Derived.Deep.CutBlock
import Derived.Deep.Heap
import Derived.Laws.Rows
/- What the law on bold play draws. -/
namespace Go.Proofs.Ythgblfldncidnaa
open Go.RowKit
set_option linter.unusedVariables false
theorem rowLitB (w : World) (C : Array Value) (xs : List Int) (P : Int → Prop) (hC : C = (xs.map (Value.int .i64)).toArray) (hP : ∀ x ∈ xs, P x) : RowI (w.alloc (.cells C 3)) w.heap.size xs.length P := by
  subst hC
  refine ⟨by simp, fun j hj => ⟨xs.getD j 0, ?_, ?_⟩⟩
  · rw [List.getD_eq_getElem?_getD, List.getElem?_eq_getElem hj]
    exact hP _ (List.getElem_mem hj)
  · rw [List.getD_eq_getElem?_getD, List.getElem?_eq_getElem hj]
    simp [hj]
def AnyI (x : Int) : Prop := True
def SmallB (x : Int) : Prop := -1 ≤ x ∧ x ≤ 13
def RatV (v : Value) : Prop := ∃ a b : Int, v = .agg #[.int .i64 a, .int .i64 b]
/-- the cursor stands, all that has turned is the cursor's block -/
def CurAt (w : World) (g : Nat) (A : Option Addr) (len cap T : Nat) (W : World) : Prop := Cur W g A len cap T ∧ w.grownBy W (some g)
theorem CurAt.alloc {w W : World} {g : Nat} {A : Option Addr} {len cap T : Nat} (h : CurAt w g A len cap T W) (o : Obj) : CurAt w g A len cap T (W.alloc o) := ⟨h.1.alloc o, grown_trans' h.2 (World.grownBy_alloc W o _)⟩
theorem CurAt.next {w W W' : World} {g : Nat} {A : Option Addr} {len cap T T' : Nat} (h : CurAt w g A len cap T W) (hc : Cur W' g A len cap T') (hg : W.grownBy W' (some g)) : CurAt w g A len cap T' W' := ⟨hc, grown_trans' h.2 hg⟩
theorem CurAt.below {w W W' : World} {g : Nat} {A : Option Addr} {len cap T : Nat} (h : CurAt w g A len cap T W) (hb : Below W.heap.size W W') : CurAt w g A len cap T W' := by
  have hg := grown_of_below hb (some g)
  have hl := h.1.lt
  refine ⟨⟨fun j hj => ?_, ?_, ?_, ?_, fun j => ?_, Nat.lt_of_lt_of_le hl hb.size⟩, grown_trans' h.2 hg⟩
  · obtain ⟨a, x, h1, h2, h3, h4⟩ := h.1.code j hj
    exact ⟨a, x, h1, h2, h3, (hb.cell (p := a.add j) (by rw [add_block]; omega)).trans h4⟩
  · exact (hb.cell (p := ⟨g, 0, none⟩) hl).trans h.1.c0
  · obtain ⟨a, h1, h2⟩ := h.1.c1
    exact ⟨a, h1, (hb.cell (p := ⟨g, 1, none⟩) hl).trans h2⟩
  · obtain ⟨z, h1, h2, h3⟩ := h.1.c2
    exact ⟨z, h1, h2, (hb.cell (p := ⟨g, 2, none⟩) hl).trans h3⟩
  · exact (hb.frozen (p := ⟨g, j, none⟩) hl).trans (h.1.free j)
/-- a box of two numbers, which ones does not matter -/
def ZB (b : Nat) (X : World) : Prop := ∃ u v : Int, X.heap[b]? = some (.cells #[.int .i64 u, .int .i64 v] 25 (0, 0))
theorem ZB.next {b g : Nat} {X X' : World} (h : ZB b X) (hg : X.grownBy X' (some g)) (hn : b ≠ g) (hl : b < X.heap.size) : ZB b X' := by
  obtain ⟨u, v, h⟩ := h
  exact ⟨u, v, (hg.block b hl (fun e => hn (by injection e))).trans h⟩
theorem ZB.new (X : World) : ZB X.heap.size (X.alloc (.cells #[.int .i64 0, .int .i64 0] 25)) := ⟨0, 0, heap_alloc_new _ _⟩
theorem ZB.lt {b : Nat} {X : World} (h : ZB b X) : b < X.heap.size := by
  obtain ⟨u, v, h⟩ := h
  exact (Array.getElem?_eq_some_iff.1 h).1
theorem zb_c0 {b : Nat} {X : World} {u v : Value} {t : TypeId} (h : X.heap[b]? = some (.cells #[u, v] t (0, 0))) : X.cell? ⟨b, 0, none⟩ = some u := by rw [cell_of_row X b 0 _ t _ h]; rfl
theorem zb_c1 {b : Nat} {X : World} {u v : Value} {t : TypeId} (h : X.heap[b]? = some (.cells #[u, v] t (0, 0))) : X.cell? ⟨b, 1, none⟩ = some v := by rw [cell_of_row X b 1 _ t _ h]; rfl
theorem zb_f {b j : Nat} {X : World} {u v : Value} {t : TypeId} (h : X.heap[b]? = some (.cells #[u, v] t (0, 0))) : X.frozen? ⟨b, j, none⟩ = false := by simp [World.frozen?, h]
theorem zb_set {b : Nat} {X : World} {u v : Value} {t : TypeId} (h : X.heap[b]? = some (.cells #[u, v] t (0, 0))) (x y : Value) : ((X.setCell ⟨b, 0, none⟩ x).setCell ⟨b, 1, none⟩ y).heap[b]? = some (.cells #[x, y] t (0, 0)) := by
  simp [World.setCell, Array.getElem?_modify, h]
theorem zb_store {w W : World} {g b : Nat} {A : Option Addr} {len cap T : Nat} (h : CurAt w g A len cap T W) (hb : w.heap.size ≤ b) (hg : g < w.heap.size) (x y : Value) : CurAt w g A len cap T ((W.setCell ⟨b, 0, none⟩ x).setCell ⟨b, 1, none⟩ y) := by
  have ne : ∀ j (k : Nat), (⟨b, k, none⟩ : Addr) ≠ ⟨g, j, none⟩ := fun j k e => by injection e with e; omega
  have nc : ∀ (a : Addr) (j k : Nat), a.block < w.heap.size → (⟨b, k, none⟩ : Addr) ≠ a.add j := fun a j k ha e => by
    have := congrArg Addr.block e
    rw [add_block] at this
    simp at this
    omega
  refine ⟨⟨fun j hj => ?_, ?_, ?_, ?_, fun j => ?_, by simpa [World.setCell] using h.1.lt⟩, ?_⟩
  · obtain ⟨a, v, h1, h2, h3, h4⟩ := h.1.code j hj
    exact ⟨a, v, h1, h2, h3, by rw [World.cell?_setCell_other _ _ _ _ (nc a j 1 (by omega)), World.cell?_setCell_other _ _ _ _ (nc a j 0 (by omega))]; exact h4⟩
  · rw [World.cell?_setCell_other _ _ _ _ (ne 0 1), World.cell?_setCell_other _ _ _ _ (ne 0 0)]; exact h.1.c0
  · obtain ⟨a, h1, h2⟩ := h.1.c1
    exact ⟨a, h1, by rw [World.cell?_setCell_other _ _ _ _ (ne 1 1), World.cell?_setCell_other _ _ _ _ (ne 1 0)]; exact h2⟩
  · obtain ⟨z, h1, h2, h3⟩ := h.1.c2
    exact ⟨z, h1, h2, by rw [World.cell?_setCell_other _ _ _ _ (ne 2 1), World.cell?_setCell_other _ _ _ _ (ne 2 0)]; exact h3⟩
  · rw [World.frozen?_setCell, World.frozen?_setCell]; exact h.1.free j
  · refine ⟨h.2.os, h.2.tape, h.2.output, by simpa [World.setCell] using h.2.size, fun k hk hne => ?_⟩
    have hkb : k ≠ b := fun e => by omega
    have hot : ∀ (V : World) (q : Nat) (z : Value), (V.setCell ⟨b, q, none⟩ z).heap[k]? = V.heap[k]? := fun V q z => by
      simp only [World.setCell, Array.getElem?_modify]
      rw [if_neg (fun e => hkb e.symm)]
    rw [hot, hot]
    exact h.2.block k hk hne
set_option maxHeartbeats 2000000 in
theorem chance_any (w : World) (g : Nat) (A : Option Addr) (len cap T : Nat) (hc : Cur w g A len cap T) (hT : T ≤ 1000) (hl : len ≤ 1099511627776) :
    Calls Try.prog 17 #[.pointer (some ⟨g, 0, none⟩)] w (CurRet w g A len cap (T + 8) RatV) := by
  have hgl := hc.lt
  have HC0 : Hid (CurAt w g A len cap T (w.alloc (.cells #[.int .i64 0, .int .i64 0] 25))) := Lib.hid (CurAt.alloc ⟨hc, grown_refl' _ _⟩ _)
  have HZ0 : Hid (ZB w.heap.size (w.alloc (.cells #[.int .i64 0, .int .i64 0] 25))) := Lib.hid (ZB.new w)
  have HNE : Hid (w.heap.size ≠ g) := Lib.hid (by omega)
  have HGL : Hid (g < w.heap.size) := Lib.hid hgl
  have HONE : Hid (∀ (W : World) (T : Nat), Cur W g A len cap T → T ≤ 100000 → Calls Try.prog 35 #[.pointer (some ⟨g, 0, none⟩), .int .i64 14] W (CurRet W g A len cap (T + 2) IsBool)) := Lib.hid fun W T h hT => one_any W g A len cap T 14 (by omega) h (by omega) hl
  have HPICK : Hid (∀ (W : World) (T : Nat) (n : Int), 1 ≤ n ∧ n ≤ 1000 → Cur W g A len cap T → T ≤ 100000 → Calls Try.prog 15 #[.pointer (some ⟨g, 0, none⟩), .int .i64 n] W (CurRet W g A len cap (T + 2) (IntTo n))) := Lib.hid fun W T n hn h hT => pick_any W g A len cap T n (by omega) h (by omega) hl
  have H1 : Hid (∀ (W : World) (gb T : Nat), Cur W g A len cap T → T ≤ 100000 → g < W.heap.size → gb = W.heap.size → Calls Try.prog 14 #[.pointer (some ⟨g, 0, none⟩), .slice (some ⟨gb, 0, none⟩) 6 6] (W.alloc (.cells #[.int .i64 0, .int .i64 1, .int .i64 2, .int .i64 3, .int .i64 (-1), .int .i64 4611686018427387904] 3)) (CurRet (W.alloc (.cells #[.int .i64 0, .int .i64 1, .int .i64 2, .int .i64 3, .int .i64 (-1), .int .i64 4611686018427387904] 3)) g A len cap (T + 2) (IntP AnyI))) := Lib.hid fun W gb T h1 hT h2 h3 => by
    subst h3
    exact among_any AnyI _ g A len cap T W.heap.size 6 6 (by omega) (rowLitB W _ [0, 1, 2, 3, -1, 4611686018427387904] AnyI rfl (by intro x hx; simp at hx; trivial)) (by omega) (h1.alloc _) (by omega) hl
  have H2 : Hid (∀ (W : World) (gb T : Nat), Cur W g A len cap T → T ≤ 100000 → g < W.heap.size → gb = W.heap.size → Calls Try.prog 14 #[.pointer (some ⟨g, 0, none⟩), .slice (some ⟨gb, 0, none⟩) 6 6] (W.alloc (.cells #[.int .i64 0, .int .i64 1, .int .i64 2, .int .i64 4, .int .i64 7, .int .i64 (-1)] 3)) (CurRet (W.alloc (.cells #[.int .i64 0, .int .i64 1, .int .i64 2, .int .i64 4, .int .i64 7, .int .i64 (-1)] 3)) g A len cap (T + 2) (IntP AnyI))) := Lib.hid fun W gb T h1 hT h2 h3 => by
    subst h3
    exact among_any AnyI _ g A len cap T W.heap.size 6 6 (by omega) (rowLitB W _ [0, 1, 2, 4, 7, -1] AnyI rfl (by intro x hx; simp at hx; trivial)) (by omega) (h1.alloc _) (by omega) hl
  clear hc
  go_enter Try.func17, Try.ntmps17
  go_wp2_with fail
  refine (HONE.out _ _ HC0.out.1 (by omega)).mono ?_
  rintro e w1 ⟨v, rfl, ⟨bb, rfl⟩, hcur, hg⟩
  have HC1 := Lib.hid (HC0.out.next hcur hg)
  have HZ1 := Lib.hid (HZ0.out.next hg HNE.out HZ0.out.lt)
  have hl1 := hcur.lt
  clear hcur hg
  cases bb with
  | true =>
    go_wp2_with fail
    refine (H1.out _ _ _ HC1.out.1 (by omega) hl1 rfl).mono ?_
    rintro e w2 ⟨v, rfl, ⟨a, rfl, ha⟩, hcur, hg⟩
    have HC2 := Lib.hid ((HC1.out.alloc _).next hcur hg)
    have HZ2 := Lib.hid ((HZ1.out.next (World.grownBy_alloc _ _ (some g)) HNE.out HZ1.out.lt).next hg HNE.out (HZ1.out.next (World.grownBy_alloc _ _ (some g)) HNE.out HZ1.out.lt).lt)
    have hl2 := hcur.lt
    clear hcur hg
    go_wp2_with fail
    refine (H2.out _ _ _ HC2.out.1 (by omega) hl2 rfl).mono ?_
    rintro e w3 ⟨v, rfl, ⟨a2, rfl, ha2⟩, hcur, hg⟩
    have HC3 := Lib.hid ((HC2.out.alloc _).next hcur hg)
    have HZ3 := Lib.hid ((HZ2.out.next (World.grownBy_alloc _ _ (some g)) HNE.out HZ2.out.lt).next hg HNE.out (HZ2.out.next (World.grownBy_alloc _ _ (some g)) HNE.out HZ2.out.lt).lt)
    obtain ⟨z0, z1, hzz⟩ := HZ3.out
    have HB := Lib.hid hzz
    have k0 := zb_c0 hzz
    have k1 := zb_c1 hzz
    have k2 := zb_f (j := 0) hzz
    have k3 := zb_f (j := 1) hzz
    clear hzz
    clear hcur hg
    go_wp2_with fail
    (try simp only [Exit.inBlock, Exit.then])
    refine bodyPost_ret (results_cell_row rfl _ _ w.heap.size 25 _ (0, 0) (_) rfl (zb_set HB.out _ _) rfl rfl rfl) rfl ?_
    have hcs := zb_store HC3.out (Nat.le_refl _) HGL.out (.int .i64 a) (.int .i64 a2)
    exact ⟨_, rfl, ⟨a, a2, rfl⟩, hcs.1.mono (by omega), hcs.2⟩
  | false =>
    go_wp2_with fail
    refine (HPICK.out _ _ 5 (by omega) HC1.out.1 (by omega)).mono ?_
    rintro e w2 ⟨v, rfl, ⟨x, rfl, hx1, hx2⟩, hcur, hg⟩
    have HC2 := Lib.hid (HC1.out.next hcur hg)
    have HZ2 := Lib.hid (HZ1.out.next hg HNE.out HZ1.out.lt)
    clear hcur hg
    go_wp2_with fail
    refine (HPICK.out _ _ _ (by omega) HC2.out.1 (by omega)).mono ?_
    rintro e w3 ⟨v, rfl, ⟨y, rfl, hy1, hy2⟩, hcur, hg⟩
    have HC3 := Lib.hid (HC2.out.next hcur hg)
    have HZ3 := Lib.hid (HZ2.out.next hg HNE.out HZ2.out.lt)
    clear hcur hg
    go_wp2_with fail
    refine (ruRatioZ_any _ _ _ (by omega) (by omega)).mono ?_
    rintro e w4 ⟨rfl, hb4⟩
    have HC4 := Lib.hid (HC3.out.below hb4)
    have HZ4 := Lib.hid (HZ3.out.next (grown_of_below hb4 (some g)) HNE.out HZ3.out.lt)
    obtain ⟨z0, z1, hzz⟩ := HZ4.out
    have HB := Lib.hid hzz
    have k0 := zb_c0 hzz
    have k1 := zb_c1 hzz
    have k2 := zb_f (j := 0) hzz
    have k3 := zb_f (j := 1) hzz
    clear hzz
    clear hb4
    generalize numZ (1 + y) (2 + x) = nn at *
    generalize denZ (1 + y) (2 + x) = dd at *
    go_wp2_with fail
    (try simp only [Exit.inBlock, Exit.then])
    refine bodyPost_ret (results_cell_row rfl _ _ w.heap.size 25 _ (0, 0) (_) rfl (zb_set HB.out _ _) rfl rfl rfl) rfl ?_
    have hcs := zb_store HC4.out (Nat.le_refl _) HGL.out (.int .i64 nn) (.int .i64 dd)
    exact ⟨_, rfl, ⟨nn, dd, rfl⟩, hcs.1.mono (by omega), hcs.2⟩
def PairV (v : Value) : Prop := ∃ a b : Int, v = .tuple #[.int .i64 a, .int .i64 b] ∧ -1 ≤ a ∧ a ≤ 13 ∧ -1 ≤ b ∧ b ≤ 13
set_option maxHeartbeats 2000000 in
theorem held_any (w : World) (g : Nat) (A : Option Addr) (len cap T : Nat) (hc : Cur w g A len cap T) (hT : T ≤ 1000) (hl : len ≤ 1099511627776) :
    Calls Try.prog 28 #[.pointer (some ⟨g, 0, none⟩)] w (CurRet w g A len cap (T + 8) PairV) := by
  have hgl := hc.lt
  have HC0 : Hid (CurAt w g A len cap T w) := Lib.hid ⟨hc, grown_refl' _ _⟩
  have HONE : Hid (∀ (W : World) (T : Nat), Cur W g A len cap T → T ≤ 100000 → Calls Try.prog 35 #[.pointer (some ⟨g, 0, none⟩), .int .i64 14] W (CurRet W g A len cap (T + 2) IsBool)) := Lib.hid fun W T h hT => one_any W g A len cap T 14 (by omega) h (by omega) hl
  have HPICK : Hid (∀ (W : World) (T : Nat) (n : Int), 1 ≤ n ∧ n ≤ 1000 → Cur W g A len cap T → T ≤ 100000 → Calls Try.prog 15 #[.pointer (some ⟨g, 0, none⟩), .int .i64 n] W (CurRet W g A len cap (T + 2) (IntTo n))) := Lib.hid fun W T n hn h hT => pick_any W g A len cap T n (by omega) h (by omega) hl
  have H1 : Hid (∀ (W : World) (gb T : Nat), Cur W g A len cap T → T ≤ 100000 → g < W.heap.size → gb = W.heap.size → Calls Try.prog 14 #[.pointer (some ⟨g, 0, none⟩), .slice (some ⟨gb, 0, none⟩) 5 5] (W.alloc (.cells #[.int .i64 (-1), .int .i64 0, .int .i64 1, .int .i64 12, .int .i64 13] 3)) (CurRet (W.alloc (.cells #[.int .i64 (-1), .int .i64 0, .int .i64 1, .int .i64 12, .int .i64 13] 3)) g A len cap (T + 2) (IntP SmallB))) := Lib.hid fun W gb T h1 hT h2 h3 => by
    subst h3
    exact among_any SmallB _ g A len cap T W.heap.size 5 5 (by omega) (rowLitB W _ [-1, 0, 1, 12, 13] SmallB rfl (by intro x hx; simp at hx; unfold SmallB; omega)) (by omega) (h1.alloc _) (by omega) hl
  have H2 : Hid (∀ (W : World) (gb T : Nat), Cur W g A len cap T → T ≤ 100000 → g < W.heap.size → gb = W.heap.size → Calls Try.prog 14 #[.pointer (some ⟨g, 0, none⟩), .slice (some ⟨gb, 0, none⟩) 5 5] (W.alloc (.cells #[.int .i64 0, .int .i64 1, .int .i64 12, .int .i64 13, .int .i64 (-1)] 3)) (CurRet (W.alloc (.cells #[.int .i64 0, .int .i64 1, .int .i64 12, .int .i64 13, .int .i64 (-1)] 3)) g A len cap (T + 2) (IntP SmallB))) := Lib.hid fun W gb T h1 hT h2 h3 => by
    subst h3
    exact among_any SmallB _ g A len cap T W.heap.size 5 5 (by omega) (rowLitB W _ [0, 1, 12, 13, -1] SmallB rfl (by intro x hx; simp at hx; unfold SmallB; omega)) (by omega) (h1.alloc _) (by omega) hl
  clear hc
  go_enter Try.func28, Try.ntmps28
  go_wp2_with fail
  refine (HONE.out _ _ HC0.out.1 (by omega)).mono ?_
  rintro e w1 ⟨v, rfl, ⟨bb, rfl⟩, hcur, hg⟩
  have HC1 := Lib.hid (HC0.out.next hcur hg)
  have hl1 := hcur.lt
  clear hcur hg
  cases bb with
  | true =>
    go_wp2_with fail
    refine (H1.out _ _ _ HC1.out.1 (by omega) hl1 rfl).mono ?_
    rintro e w2 ⟨v, rfl, ⟨a, rfl, ha⟩, hcur, hg⟩
    have HC2 := Lib.hid ((HC1.out.alloc _).next hcur hg)
    have hl2 := hcur.lt
    clear hcur hg
    go_wp2_with fail
    refine (H2.out _ _ _ HC2.out.1 (by omega) hl2 rfl).mono ?_
    rintro e w3 ⟨v, rfl, ⟨a2, rfl, ha2⟩, hcur, hg⟩
    have HC3 := Lib.hid ((HC2.out.alloc _).next hcur hg)
    clear hcur hg
    unfold SmallB at ha ha2
    go_wp2_with fail
    go_ret2
    exact ⟨_, rfl, ⟨a, a2, rfl, ha.1, ha.2, ha2.1, ha2.2⟩, HC3.out.1.mono (by omega), HC3.out.2⟩
  | false =>
    go_wp2_with fail
    refine (HPICK.out _ _ 8 (by omega) HC1.out.1 (by omega)).mono ?_
    rintro e w2 ⟨v, rfl, ⟨x, rfl, hx1, hx2⟩, hcur, hg⟩
    have HC2 := Lib.hid (HC1.out.next hcur hg)
    clear hcur hg
    go_wp2_with fail
    refine (HPICK.out _ _ _ (by omega) HC2.out.1 (by omega)).mono ?_
    rintro e w3 ⟨v, rfl, ⟨y, rfl, hy1, hy2⟩, hcur, hg⟩
    have HC3 := Lib.hid (HC2.out.next hcur hg)
    clear hcur hg
    go_wp2_with fail
    go_ret2
    exact ⟨_, rfl, ⟨y, 1 + x, rfl, by omega, by omega, by omega, by omega⟩, HC3.out.1.mono (by omega), HC3.out.2⟩
end Go.Proofs.Ythgblfldncidnaa

/- What the law on bold play draws: the two draws. -/
namespace Go.Proofs.Ythgblfldncidnaa
open Go.RowKit
set_option linter.unusedVariables false
def SmallG (x : Int) : Prop := 0 ≤ x ∧ x ≤ 8
/-- the cursor stands behind a box of two numbers -/
structure BdW (w : World) (b : Nat) (A : Option Addr) (len cap T : Nat) (W : World) : Prop where
  c : Cur W (b + 1) A len cap T
  z : ZB b W
  l : Below w.heap.size w W
theorem BdW.alloc {w W : World} {b : Nat} {A : Option Addr} {len cap T : Nat} (h : BdW w b A len cap T W) (o : Obj) : BdW w b A len cap T (W.alloc o) := ⟨h.c.alloc o, h.z.next (World.grownBy_alloc _ _ (some (b + 1))) (by omega) h.z.lt, h.l.alloc h.l.size _⟩
theorem BdW.next {w W W' : World} {A : Option Addr} {len cap T T' : Nat} (h : BdW w w.heap.size A len cap T W) (hc : Cur W' (w.heap.size + 1) A len cap T') (hg : W.grownBy W' (some (w.heap.size + 1))) : BdW w w.heap.size A len cap T' W' := ⟨hc, h.z.next hg (by omega) h.z.lt, h.l.grown hg h.l.size (fun j hj => by injection hj with hj; omega)⟩
theorem results3_cell {fn : Func} {t u p : Tmp} {ty : TypeId} (h : fn.results = #[.tmp t, .tmp u, .cell p ty]) (tmps : Array Value) (P : Program) (w : World) (g : Nat) (cs : Array Value)
    (hp : tmps.getD p undef = .pointer (some ⟨g, 0, none⟩)) (hr : (loadVar ty ⟨g, 0, none⟩).run P w = .ok (.agg cs) w) :
    (results fn tmps).run P w = .ok (.tuple #[tmps.getD t undef, tmps.getD u undef, .agg cs]) w := by
  have hp' : tmps[p]?.getD undef = .pointer (some ⟨g, 0, none⟩) := by simpa using hp
  simp [results, h, hp', asAddr, hr, Result.andThen]
set_option maxHeartbeats 2000000 in
theorem drawFv_any (w : World) (A : Option Addr) (len cap : Nat) (hc : CodeAt w w.heap.size A len) (hl : len ≤ 1099511627776) :
    Calls Try.prog 9 #[.slice A len cap] w fun e w' => ∃ a b n : Int, e = .returned (.tuple #[.int .i64 a, .int .i64 b, .int .i64 n]) ∧ Below w.heap.size w w' := by
  have HC := Lib.hid (Cur.new (cap := cap) hc)
  have HHELD : Hid (∀ W, Cur W w.heap.size A len cap 0 → Calls Try.prog 28 #[.pointer (some ⟨w.heap.size, 0, none⟩)] W (CurRet W w.heap.size A len cap (0 + 8) PairV)) := Lib.hid fun W h => held_any W _ A len cap 0 h (by omega) hl
  have HPICK : Hid (∀ (W : World) (n : Int), 1 ≤ n ∧ n ≤ 1000 → Cur W w.heap.size A len cap (0 + 8) → Calls Try.prog 15 #[.pointer (some ⟨w.heap.size, 0, none⟩), .int .i64 n] W (CurRet W w.heap.size A len cap (0 + 8 + 2) (IntTo n))) := Lib.hid fun W n hn h => pick_any W _ A len cap _ n (by omega) h (by omega) hl
  clear hc
  go_enter Try.func9, Try.ntmps9
  go_wp2_with fail
  refine (HHELD.out _ HC.out).mono ?_
  rintro e w1 ⟨v, rfl, ⟨a, g, rfl, ha1, ha2, hg1, hg2⟩, hcur, hg⟩
  have HG := Lib.hid hg
  have HCU := Lib.hid hcur
  clear hcur hg
  go_wp2_with fail
  refine (least_any _ _ _).mono ?_
  rintro e w2 ⟨rfl, rfl⟩
  have hm1 : (if g < 13 then g else 13) ≤ 13 := by split <;> omega
  generalize (if g < 13 then g else 13) = m1 at *
  go_wp2_with fail
  refine (most_any _ _ _).mono ?_
  rintro e w2 ⟨rfl, rfl⟩
  have hm2 : 1 ≤ (if 1 < m1 then m1 else 1) ∧ (if 1 < m1 then m1 else 1) ≤ 1000 := by split <;> omega
  generalize (if 1 < m1 then m1 else 1) = m2 at *
  go_wp2_with fail
  refine (HPICK.out _ _ hm2 HCU.out).mono ?_
  rintro e w2 ⟨v, rfl, ⟨b, rfl, hb⟩, hcur, hg⟩
  have HB : Hid (Below w.heap.size w w2) := Lib.hid (below_of_new (grown_trans' HG.out hg))
  clear hcur hg hb
  go_wp2_with fail
  (try simp only [Exit.inBlock, Exit.then])
  refine bodyPost_ret (results_tmp3 rfl _ _ _) rfl ?_
  exact ⟨a, b, g, rfl, HB.out⟩
set_option maxHeartbeats 2000000 in
theorem drawBc_any (w : World) (A : Option Addr) (len cap : Nat) (hc : CodeAt w w.heap.size A len) (hl : len ≤ 1099511627776) :
    Calls Try.prog 5 #[.slice A len cap] w fun e w' => ∃ i g n d : Int, e = .returned (.tuple #[.int .i64 i, .int .i64 g, .agg #[.int .i64 n, .int .i64 d]]) ∧ Below w.heap.size w w' := by
  have hc1 : CodeAt (w.alloc (.cells #[.int .i64 0, .int .i64 0] 25)) (w.alloc (.cells #[.int .i64 0, .int .i64 0] 25)).heap.size A len := hc.below ((Below.refl _ _).alloc (Nat.le_refl _) _)
  have hz : (w.alloc (.cells #[.int .i64 0, .int .i64 0] 25)).heap.size = w.heap.size + 1 := by simp
  have HC0 := Lib.hid (Cur.new (cap := cap) hc1)
  rw [hz] at HC0
  have HW0 : Hid (BdW w w.heap.size A len cap 0 ((w.alloc (.cells #[.int .i64 0, .int .i64 0] 25)).alloc (.cells #[.slice A len cap, .int .i64 0, .int .u64 0] 37))) := Lib.hid ⟨HC0.out, (ZB.new w).next (World.grownBy_alloc _ _ (some (w.heap.size + 1))) (by omega) (ZB.new w).lt, ((Below.refl _ w).alloc (Nat.le_refl _) _).alloc (by simp) _⟩
  have HPICK : Hid (∀ (W : World) (T : Nat) (n : Int), 1 ≤ n ∧ n ≤ 1000 → Cur W (w.heap.size + 1) A len cap T → T ≤ 100000 → Calls Try.prog 15 #[.pointer (some ⟨w.heap.size + 1, 0, none⟩), .int .i64 n] W (CurRet W (w.heap.size + 1) A len cap (T + 2) (IntTo n))) := Lib.hid fun W T n hn h hT => pick_any W _ A len cap T n (by omega) h (by omega) hl
  have HCH : Hid (∀ (W : World) (T : Nat), T ≤ 1000 → Cur W (w.heap.size + 1) A len cap T → Calls Try.prog 17 #[.pointer (some ⟨w.heap.size + 1, 0, none⟩)] W (CurRet W (w.heap.size + 1) A len cap (T + 8) RatV)) := Lib.hid fun W T hT h => chance_any W _ A len cap T h hT hl
  have H1 : Hid (∀ (W : World) (gb T : Nat), Cur W (w.heap.size + 1) A len cap T → T ≤ 100000 → (w.heap.size + 1) < W.heap.size → gb = W.heap.size → Calls Try.prog 14 #[.pointer (some ⟨(w.heap.size + 1), 0, none⟩), .slice (some ⟨gb, 0, none⟩) 8 8] (W.alloc (.cells #[.int .i64 1, .int .i64 2, .int .i64 4, .int .i64 8, .int .i64 8, .int .i64 4, .int .i64 3, .int .i64 0] 3)) (CurRet (W.alloc (.cells #[.int .i64 1, .int .i64 2, .int .i64 4, .int .i64 8, .int .i64 8, .int .i64 4, .int .i64 3, .int .i64 0] 3)) (w.heap.size + 1) A len cap (T + 2) (IntP SmallG))) := Lib.hid fun W gb T h1 hT h2 h3 => by
    subst h3
    exact among_any SmallG _ (w.heap.size + 1) A len cap T W.heap.size 8 8 (by omega) (rowLitB W _ [1, 2, 4, 8, 8, 4, 3, 0] SmallG rfl (by intro x hx; simp at hx; unfold SmallG; omega)) (by omega) (h1.alloc _) (by omega) hl
  clear hc hc1 HC0
  go_enter Try.func5, Try.ntmps5
  go_wp2_with fail
  refine (H1.out _ _ _ HW0.out.1 (by omega) (by simp) (by simp)).mono ?_
  rintro e w1 ⟨v, rfl, ⟨g, rfl, hg0⟩, hcur, hg⟩
  have HW1 := Lib.hid ((HW0.out.alloc _).next hcur hg)
  clear hcur hg
  unfold SmallG at hg0
  go_wp2_with fail
  refine (most_any _ _ _).mono ?_
  rintro e w2 ⟨rfl, rfl⟩
  have hm2 : 1 ≤ (if 1 < g then g else 1) ∧ (if 1 < g then g else 1) ≤ 8 := by split <;> omega
  generalize (if 1 < g then g else 1) = m2 at *
  go_wp2_with fail
  refine (HPICK.out _ _ _ (by omega) HW1.out.1 (by omega)).mono ?_
  rintro e w2 ⟨v, rfl, ⟨x, rfl, hx⟩, hcur, hg⟩
  have HW2 := Lib.hid (HW1.out.next hcur hg)
  clear hcur hg
  go_wp2_with fail
  refine (HPICK.out _ _ 9 (by omega) HW2.out.1 (by omega)).mono ?_
  rintro e w3 ⟨v, rfl, ⟨y, rfl, hy⟩, hcur, hg⟩
  have HW3 := Lib.hid (HW2.out.next hcur hg)
  clear hcur hg
  go_wp2_with fail
  refine (HCH.out _ _ (by omega) HW3.out.1).mono ?_
  rintro e w4 ⟨v, rfl, ⟨n, d, rfl⟩, hcur, hg⟩
  have HW4 := Lib.hid (HW3.out.next hcur hg)
  clear hcur hg
  obtain ⟨z0, z1, hzz⟩ := HW4.out.2
  have HB := Lib.hid hzz
  have k0 := zb_c0 hzz
  have k1 := zb_c1 hzz
  have k2 := zb_f (j := 0) hzz
  have k3 := zb_f (j := 1) hzz
  clear hzz
  go_wp2_with fail
  (try simp only [Exit.inBlock, Exit.then])
  refine bodyPost_ret (results3_cell rfl _ _ _ w.heap.size _ rfl (run_loadVar_row _ w.heap.size 25 _ _ (0, 0) _ (zb_set HB.out _ _) rfl rfl rfl)) rfl ?_
  exact ⟨_, g, n, d, rfl, (HW4.out.3.setCell (Nat.le_refl _) _).setCell (Nat.le_refl _) _⟩
end Go.Proofs.Ythgblfldncidnaa
