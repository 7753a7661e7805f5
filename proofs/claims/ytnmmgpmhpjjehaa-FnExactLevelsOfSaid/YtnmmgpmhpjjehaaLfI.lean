/- LevelsOf of the program. -/
import Derived.Test.YtnmmgpmhpjjehaaFitI
import Derived.Test.YtnmmgpmhpjjehaaRepI
import Derived.Test.YtnmmgpmhpjjehaaShI
import Derived.Test.YtnmmgpmhpjjehaaAnyInv
namespace Go.Proofs.Ytnmmgpmhpjjehaa
open Go.RowKit
set_option linter.unusedVariables false
theorem app_get {xs ys : List Int} {i : Nat} (h : i < xs.length) : (xs ++ ys).getD i 0 = xs.getD i 0 := by
  rw [List.getD_eq_getElem?_getD, List.getElem?_append_left h, ← List.getD_eq_getElem?_getD]
theorem app_get_at (xs : List Int) (x : Int) (ys : List Int) : (xs ++ x :: ys).getD xs.length 0 = x := by
  rw [List.getD_eq_getElem?_getD, List.getElem?_append_right (Nat.le_refl _), Nat.sub_self]
  rfl
theorem set_at (xs : List Int) (x y : Int) (ys : List Int) : (xs ++ x :: ys).set xs.length y = xs ++ y :: ys := by simp
theorem odd_mo {fs ds R1 R2 : List Int} {x : Int} (h : fs.length = ds.length) : mo (fs ++ x :: R1).length (fG (fs ++ x :: R1)) (fG (ds ++ 1 :: R2)) (2 * fs.length + 1) 0 = moM (fs ++ [x]) (ds ++ [1]) (2 * fs.length + 1) := by
  unfold moM
  refine mo_same (n := 2 * fs.length + 1) (by simp; omega) (by simp; omega) (fun i hi => ?_) (fun i hi => ?_) _ _ (by omega)
  · show (fs ++ x :: R1).getD i 0 = (fs ++ [x]).getD i 0
    by_cases e : i < fs.length
    · rw [app_get e, app_get e]
    · obtain rfl : i = fs.length := by omega
      rw [app_get_at, app_get_at]
  · show (ds ++ 1 :: R2).getD i 0 = (ds ++ [1]).getD i 0
    rw [app_get (by omega), app_get (by omega)]
theorem even_mo {fs ds R1 R2 : List Int} {x : Int} (h : fs.length = ds.length + 1) (h2 : 1 ≤ R1.length) : mo (fs ++ R1).length (fG (fs ++ R1)) (fG (ds ++ x :: R2)) (2 * ds.length + 2) 0 = moM (fs ++ [0]) (ds ++ [x] ++ [1]) (2 * ds.length + 2) := by
  unfold moM
  refine mo_same (n := 2 * ds.length + 2) (by simp; omega) (by simp; omega) (fun i hi => ?_) (fun i hi => ?_) _ _ (by omega)
  · show (fs ++ R1).getD i 0 = (fs ++ [0]).getD i 0
    rw [app_get (by omega), app_get (by omega)]
  · show (ds ++ x :: R2).getD i 0 = (ds ++ [x] ++ [1]).getD i 0
    by_cases e : i < ds.length
    · rw [app_get e, List.append_assoc, app_get e]
    · obtain rfl : i = ds.length := by omega
      rw [app_get_at, List.append_assoc]
      exact (app_get_at ds x [1]).symm
theorem allB_app {xs ys : List Int} {lo hi : Int} (h1 : allB xs lo hi = true) (h2 : allB ys lo hi = true) : allB (xs ++ ys) lo hi = true := by
  unfold allB at *
  rw [List.all_append, h1, h2]
  rfl
theorem allB_cons {x lo hi : Int} {ys : List Int} (h1 : lo ≤ x ∧ x ≤ hi) (h2 : allB ys lo hi = true) : allB (x :: ys) lo hi = true := by
  unfold allB at *
  rw [List.all_cons, h2]
  simp [inBd, h1.1, h1.2]
theorem allB_rep (n : Nat) {x lo hi : Int} (h1 : lo ≤ x ∧ x ≤ hi) : allB (List.replicate n x) lo hi = true := by
  unfold allB
  rw [List.all_eq_true]
  intro y hy
  rw [List.eq_of_mem_replicate hy]
  simp [inBd, h1.1, h1.2]
theorem lvB_mk2 {fs ds : List Int} (h1 : 1 ≤ fs.length ∧ fs.length ≤ 6) (h2 : ds.length = fs.length) (h3 : allB fs (-5) 5 = true) (h4 : allB ds 1 5 = true) : lvB fs ds = true := by
  unfold lvB
  rw [h3, h4, inB_yes (by omega), show (((ds.length : Nat) : Int) == ((fs.length : Nat) : Int)) = true by rw [h2]; simp]
  rfl
theorem ImAt.setF' {w W : World} {a b g n c : Nat} {fs R ds : List Int} {u : Value} {x : Int} (h : ImAt w a b (fs ++ x :: R) ds (.slice (some ⟨g, 0, none⟩) n c) u W) (hn : n = fs.length + 1 + R.length) (y : Int) :
    ImAt w a b (fs ++ y :: R) ds (.slice (some ⟨g, 0, none⟩) n c) u (W.setCell ⟨g, fs.length, none⟩ (.int .i64 y)) := by
  have e : n = (fs ++ x :: R).length := by rw [hn]; simp; omega
  subst e
  have := h.setF fs.length y
  rwa [set_at] at this
theorem ImAt.setD' {w W : World} {a b g n c : Nat} {fs R ds : List Int} {v : Value} {x : Int} (h : ImAt w a b fs (ds ++ x :: R) v (.slice (some ⟨g, 0, none⟩) n c) W) (hn : n = ds.length + 1 + R.length) (y : Int) :
    ImAt w a b fs (ds ++ y :: R) v (.slice (some ⟨g, 0, none⟩) n c) (W.setCell ⟨g, ds.length, none⟩ (.int .i64 y)) := by
  have e : n = (ds ++ x :: R).length := by rw [hn]; simp; omega
  subst e
  have := h.setD ds.length y
  rwa [set_at] at this
/-- the search for a weight in Flat -/
theorem fitF {w : World} {a b gF gD n cF cD : Nat} {fs ds R1 R2 : List Int} (hn : n = fs.length + 1 + R1.length) (hd : fs.length = ds.length) (hr : R2.length = R1.length) (h6 : n ≤ 4)
    (h1 : allB fs (-5) 5 = true) (h2 : allB R1 (-5) 5 = true) (h3 : allB ds 1 5 = true) (h4 : allB R2 1 5 = true) :
    FitSt (fun x W => ImAt w a b (fs ++ x :: R1) (ds ++ 1 :: R2) (.slice (some ⟨gF, 0, none⟩) n cF) (.slice (some ⟨gD, 0, none⟩) n cD) W) gF fs.length (.slice (some ⟨gF, 0, none⟩) n cF) (.slice (some ⟨gD, 0, none⟩) n cD) (2 * fs.length + 1) (-5) (fun x => moM (fs ++ [x]) (ds ++ [1]) (2 * fs.length + 1)) where
  cell := fun x W h => ⟨by
    have := h.rF.cell (j := fs.length) (by simp)
    rwa [app_get_at] at this, h.rF.free _⟩
  set := fun x y W h => h.setF' hn y
  kept := fun x W W' h hb => h.kept hb
  mom := fun x W hx1 hx2 h => by
    have := momentOf_ret _ _ (fs ++ x :: R1) (ds ++ 1 :: R2) (2 * fs.length + 1) (by omega) W (RInts.of_row h.rF) (RInts.of_row h.rD) (lvB_mk2 (by simp; omega) (by simp; omega) (allB_app h1 (allB_cons ⟨hx1, hx2⟩ h2)) (allB_app h3 (allB_cons (by omega) h4)))
    rw [odd_mo hd] at this
    exact this
/-- the search for a weight in Down -/
theorem fitD {w : World} {a b gF gD n cF cD : Nat} {fs ds R1 R2 : List Int} (hn : n = ds.length + 1 + R2.length) (hd : fs.length = ds.length + 1) (hr : R1.length = R2.length) (h5 : 1 ≤ R1.length) (h6 : n ≤ 4)
    (h1 : allB fs (-5) 5 = true) (h2 : allB R1 (-5) 5 = true) (h3 : allB ds 1 5 = true) (h4 : allB R2 1 5 = true) :
    FitSt (fun x W => ImAt w a b (fs ++ R1) (ds ++ x :: R2) (.slice (some ⟨gF, 0, none⟩) n cF) (.slice (some ⟨gD, 0, none⟩) n cD) W) gD ds.length (.slice (some ⟨gF, 0, none⟩) n cF) (.slice (some ⟨gD, 0, none⟩) n cD) (2 * ds.length + 2) 1 (fun x => moM (fs ++ [0]) (ds ++ [x] ++ [1]) (2 * ds.length + 2)) where
  cell := fun x W h => ⟨by
    have := h.rD.cell (j := ds.length) (by simp)
    rwa [app_get_at] at this, h.rD.free _⟩
  set := fun x y W h => h.setD' hn y
  kept := fun x W W' h hb => h.kept hb
  mom := fun x W hx1 hx2 h => by
    have := momentOf_ret _ _ (fs ++ R1) (ds ++ x :: R2) (2 * ds.length + 2) (by omega) W (RInts.of_row h.rF) (RInts.of_row h.rD) (lvB_mk2 (by simp; omega) (by simp; omega) (allB_app h1 h2) (allB_app h3 (allB_cons ⟨hx1, hx2⟩ h4)))
    rw [even_mo hd h5] at this
    exact this
theorem fitP_F (ms fs ds : List Int) : fitP (fun x => moM (fs ++ [x]) (ds ++ [1]) (2 * fs.length + 1)) (-5) (ms.getD (2 * fs.length + 1) 0) = pF ms fs ds := rfl
theorem fitP_D (ms fs ds : List Int) : fitP (fun x => moM (fs ++ [0]) (ds ++ [x] ++ [1]) (2 * ds.length + 2)) 1 (ms.getD (2 * ds.length + 2) 0) = pD ms fs ds := rfl
theorem made_row (W : World) (s B : Nat) (hB : B ≤ W.heap.size) (hs : s ≤ 4) : IRow (W.alloc (.cells (madeCells #[.int .i64 0] s) 3)) B (.slice (some ⟨W.heap.size, 0, none⟩) s s) (List.replicate s 0) := by
  have e : madeCells #[.int .i64 0] s = ((List.replicate s (0 : Int)).map (Value.int .i64)).toArray := by
    apply Array.toList_inj.1
    have := madeOne (.int .i64 0) rfl s
    rw [Nat.mul_one] at this
    rw [show (madeCells #[Value.int .i64 0] s).toList = List.replicate s (Value.int .i64 0) from this]
    simp
  rw [e]
  have := row_own (B := B) (xs := List.replicate s (0 : Int)) (heap_alloc_new W (.cells ((List.replicate s (0 : Int)).map (Value.int .i64)).toArray 3)) hB (by simp [maxLen]; omega)
  rwa [List.length_replicate] at this
/-- region 4: what the slots hold, as far as the operations have been done -/
structure R4 (w2 : World) (B s : Nat) (L : Nat → Bool) (W : World) (u5 u28 u29 u30 u31 u32 u33 : Value) : Prop where
  below : Below w2.heap.size w2 W
  f0 : L 0 = true → u28 = .int .i64 (s : Int)
  f1 : L 1 = true → ∃ g c, u29 = .slice (some ⟨g, 0, none⟩) s c ∧ w2.heap.size ≤ g ∧ IRow W B u29 (List.replicate s 0)
  f2 : L 2 = true → ∃ g, u30 = .slice (some ⟨g, 0, none⟩) 1 1 ∧ g < W.heap.size ∧ W.cell? ⟨g, 0, none⟩ = some (.int .i64 1)
  f3 : L 3 = true → u31 = .int .i64 (s : Int)
  f4 : L 4 = true → ∃ g c, u32 = .slice (some ⟨g, 0, none⟩) s c ∧ w2.heap.size ≤ g ∧ IRow W B u32 (List.replicate s 1)
  f14 : L 1 = true → L 4 = true → ∀ q, u29.ownBlock = some q → u32.ownBlock ≠ some q
  f5 : L 5 = true → u33 = .agg #[u29, u32] ∧ L 1 = true ∧ L 4 = true
  f7 : L 7 = true → L 5 = true ∧ L 6 = true
  f6 : L 6 = true → ∃ b, u5 = .pointer (some ⟨b, 0, none⟩) ∧ w2.heap.size ≤ b ∧ b < W.heap.size ∧ (L 7 = false → W.heap[b]? = some (.cells #[.slice none 0 0, .slice none 0 0] 45 (0, 0))) ∧ (L 1 = true → ∀ q, u29.ownBlock = some q → q ≠ b) ∧ (L 4 = true → ∀ q, u32.ownBlock = some q → q ≠ b) ∧
    (L 7 = true → W.cell? ⟨b, 0, none⟩ = some u29 ∧ W.cell? ⟨b, 1, none⟩ = some u32)
theorem R4.kept {w2 W W' : World} {B s : Nat} {L : Nat → Bool} {u5 u28 u29 u30 u31 u32 u33 : Value} (h : R4 w2 B s L W u5 u28 u29 u30 u31 u32 u33) (hb : Below W.heap.size W W') : R4 w2 B s L W' u5 u28 u29 u30 u31 u32 u33 where
  below := h.below.trans (hb.mono h.below.size)
  f0 := h.f0
  f1 := fun e => by
    obtain ⟨g, c, h1, h2, h3⟩ := h.f1 e
    exact ⟨g, c, h1, h2, h3.below hb⟩
  f2 := fun e => by
    obtain ⟨g, h1, h2, h3⟩ := h.f2 e
    exact ⟨g, h1, Nat.lt_of_lt_of_le h2 hb.size, (hb.cell (p := ⟨g, 0, none⟩) h2).trans h3⟩
  f3 := h.f3
  f4 := fun e => by
    obtain ⟨g, c, h1, h2, h3⟩ := h.f4 e
    exact ⟨g, c, h1, h2, h3.below hb⟩
  f14 := h.f14
  f5 := h.f5
  f7 := h.f7
  f6 := fun e => by
    obtain ⟨b, h1, h2, h3, h4, h5, h6, h7⟩ := h.f6 e
    exact ⟨b, h1, h2, Nat.lt_of_lt_of_le h3 hb.size, fun e7 => (hb.block b h3).trans (h4 e7), h5, h6, fun e7 => ⟨(hb.cell (p := ⟨b, 0, none⟩) h3).trans (h7 e7).1, (hb.cell (p := ⟨b, 1, none⟩) h3).trans (h7 e7).2⟩⟩
theorem box_cells {W : World} {b : Nat} {x y : Value} {T : TypeId} (h : W.heap[b]? = some (.cells #[x, y] T (0, 0))) : W.cell? ⟨b, 0, none⟩ = some x ∧ W.cell? ⟨b, 1, none⟩ = some y ∧ W.frozen? ⟨b, 0, none⟩ = false ∧ W.frozen? ⟨b, 1, none⟩ = false := by
  refine ⟨by simp [World.cell?, h], by simp [World.cell?, h], by simp [World.frozen?, h], by simp [World.frozen?, h]⟩
theorem set2_grown {W : World} {b : Nat} (x y : Value) : W.grownBy ((W.setCell ⟨b, 0, none⟩ x).setCell ⟨b, 1, none⟩ y) (some b) :=
  ⟨rfl, rfl, rfl, by simp [World.setCell], fun i hi hne => by
    have h1 := Below.heap_setCell (W.setCell ⟨b, 0, none⟩ x) ⟨b, 1, none⟩ y i (by show i ≠ b; exact fun e => hne (by rw [e]))
    have h2 := Below.heap_setCell W ⟨b, 0, none⟩ x i (by show i ≠ b; exact fun e => hne (by rw [e]))
    exact h1.trans h2⟩
theorem R4.store {w2 W : World} {B s b : Nat} {L : Nat → Bool} {u28 u29 u30 u31 u32 u33 : Value} (h : R4 w2 B s L W (.pointer (some ⟨b, 0, none⟩)) u28 u29 u30 u31 u32 u33) (h1 : L 1 = true) (h4 : L 4 = true) (h5 : L 5 = true) (h6 : L 6 = true) (h7 : L 7 = false) :
    R4 w2 B s (upd L 7) ((W.setCell ⟨b, 0, none⟩ u29).setCell ⟨b, 1, none⟩ u32) (.pointer (some ⟨b, 0, none⟩)) u28 u29 u30 u31 u32 u33 := by
  obtain ⟨b', hb', k2, k3, k4, k5, k6, k7⟩ := h.f6 h6
  injection hb' with hb'
  injection hb' with hb'
  injection hb' with hb'
  subst hb'
  obtain ⟨c0, c1, f0, f1⟩ := box_cells (k4 h7)
  have hg := set2_grown (W := W) (b := b) u29 u32
  have hsz : ((W.setCell ⟨b, 0, none⟩ u29).setCell ⟨b, 1, none⟩ u32).heap.size = W.heap.size := by simp [World.setCell]
  exact {
    below := (h.below.setCell (p := ⟨b, 0, none⟩) k2 _).setCell (p := ⟨b, 1, none⟩) k2 _
    f0 := by simpa [upd] using h.f0
    f1 := fun e => by
      obtain ⟨g, c, e1, e2, e3⟩ := h.f1 h1
      exact ⟨g, c, e1, e2, irow_kept2 e3 hg (fun q hq e4 => k5 h1 q e4 (by injection hq with hq; exact hq.symm))⟩
    f2 := fun e => by
      obtain ⟨g, e1, e2, e3⟩ := h.f2 (by simpa [upd] using e)
      have hne : g ≠ b := fun e4 => by subst e4; rw [c0] at e3; injection e3 with e3; cases e3
      exact ⟨g, e1, by rw [hsz]; exact e2, (World.cell?_setCell_other _ _ _ _ (by intro e4; injection e4 with e4; exact hne e4.symm)).trans ((World.cell?_setCell_other _ _ _ _ (by intro e4; injection e4 with e4; exact hne e4.symm)).trans e3)⟩
    f3 := by simpa [upd] using h.f3
    f4 := fun e => by
      obtain ⟨g, c, e1, e2, e3⟩ := h.f4 h4
      exact ⟨g, c, e1, e2, irow_kept2 e3 hg (fun q hq e4 => k6 h4 q e4 (by injection hq with hq; exact hq.symm))⟩
    f14 := by simpa [upd] using h.f14
    f5 := by simpa [upd] using h.f5
    f7 := fun _ => by simp [upd, h5, h6]
    f6 := fun _ => ⟨b, rfl, k2, by rw [hsz]; exact k3, fun e => by simp [upd] at e, fun _ => k5 h1, fun _ => k6 h4, fun _ =>
      ⟨(World.cell?_setCell_other _ _ _ _ (by simp)).trans (World.cell?_setCell_same' _ _ _ (by rw [c0]; rfl)), World.cell?_setCell_same' _ _ _ (by rw [World.cell?_setCell_other _ _ _ _ (by simp), c1]; rfl)⟩⟩ }
/-- what the two lists are ahead of the moment of n -/
def LfInv (ms : List Int) (s n : Nat) (Fl Dn : List Int) : Prop :=
  (∃ h fs ds, n = 2 * h + 1 ∧ h < s ∧ lfS ms h = some (fs, ds) ∧ Fl = fs ++ List.replicate (s - h) 0 ∧ Dn = ds ++ List.replicate (s - h) 1) ∨
  (∃ h fs ds a, n = 2 * h + 2 ∧ h < s ∧ lfS ms h = some (fs, ds) ∧ ffG (pF ms fs ds) 11 0 = some a ∧ Fl = (fs ++ [-5 + (a : Int)]) ++ List.replicate (s - h - 1) 0 ∧ Dn = ds ++ List.replicate (s - h) 1)
theorem ImAt.done {w W : World} {b : Nat} {fs ds : List Int} {v u : Value} {ok : Bool} (h : ImAt w w.heap.size b fs ds v u W) :
    ((W.setCell ⟨w.heap.size, 0, none⟩ v).setCell ⟨w.heap.size, 1, none⟩ u).cell? ⟨w.heap.size, 0, none⟩ = some v ∧ ((W.setCell ⟨w.heap.size, 0, none⟩ v).setCell ⟨w.heap.size, 1, none⟩ u).cell? ⟨w.heap.size, 1, none⟩ = some u ∧
    LevsRet w ok fs ds (.returned (.tuple #[.agg #[v, u], .bool ok])) ((W.setCell ⟨w.heap.size, 0, none⟩ v).setCell ⟨w.heap.size, 1, none⟩ u) := by
  refine ⟨(World.cell?_setCell_other _ _ _ _ (by simp)).trans (World.cell?_setCell_same' _ _ _ (by rw [h.r0]; rfl)), World.cell?_setCell_same' _ _ _ (by rw [World.cell?_setCell_other _ _ _ _ (by simp), h.r1]; rfl), _, rfl, ⟨v, u, rfl, ?_, ?_, h.ne⟩, ?_⟩
  · exact ((h.rF.low _ rfl (by show w.heap.size < w.heap.size + 1; omega) _).low _ rfl (by show w.heap.size < w.heap.size + 1; omega) _).mono (by omega)
  · exact ((h.rD.low _ rfl (by show w.heap.size < w.heap.size + 1; omega) _).low _ rfl (by show w.heap.size < w.heap.size + 1; omega) _).mono (by omega)
  · exact (h.below.setCell (p := ⟨w.heap.size, 0, none⟩) (Nat.le_refl _) _).setCell (p := ⟨w.heap.size, 1, none⟩) (Nat.le_refl _) _
theorem ImAt.undone {w W : World} {b : Nat} {fs ds : List Int} {v u : Value} {ok : Bool} (h : ImAt w w.heap.size b fs ds v u W) :
    ((W.setCell ⟨w.heap.size, 0, none⟩ (.slice none 0 0)).setCell ⟨w.heap.size, 1, none⟩ (.slice none 0 0)).cell? ⟨w.heap.size, 0, none⟩ = some (.slice none 0 0) ∧ ((W.setCell ⟨w.heap.size, 0, none⟩ (.slice none 0 0)).setCell ⟨w.heap.size, 1, none⟩ (.slice none 0 0)).cell? ⟨w.heap.size, 1, none⟩ = some (.slice none 0 0) ∧
    LevsRet w ok [] [] (.returned (.tuple #[.agg #[.slice none 0 0, .slice none 0 0], .bool ok])) ((W.setCell ⟨w.heap.size, 0, none⟩ (.slice none 0 0)).setCell ⟨w.heap.size, 1, none⟩ (.slice none 0 0)) := by
  refine ⟨(World.cell?_setCell_other _ _ _ _ (by simp)).trans (World.cell?_setCell_same' _ _ _ (by rw [h.r0]; rfl)), World.cell?_setCell_same' _ _ _ (by rw [World.cell?_setCell_other _ _ _ _ (by simp), h.r1]; rfl), _, rfl, ⟨_, _, rfl, IRow.nil _ _, IRow.nil _ _, fun q hq => by cases hq⟩, ?_⟩
  exact (h.below.setCell (p := ⟨w.heap.size, 0, none⟩) (Nat.le_refl _) _).setCell (p := ⟨w.heap.size, 1, none⟩) (Nat.le_refl _) _
theorem box_undone {w W : World} {ok : Bool} (hb : Below w.heap.size w W) (r0 : W.cell? ⟨w.heap.size, 0, none⟩ = some (.slice none 0 0)) (r1 : W.cell? ⟨w.heap.size, 1, none⟩ = some (.slice none 0 0)) :
    ((W.setCell ⟨w.heap.size, 0, none⟩ (.slice none 0 0)).setCell ⟨w.heap.size, 1, none⟩ (.slice none 0 0)).cell? ⟨w.heap.size, 0, none⟩ = some (.slice none 0 0) ∧ ((W.setCell ⟨w.heap.size, 0, none⟩ (.slice none 0 0)).setCell ⟨w.heap.size, 1, none⟩ (.slice none 0 0)).cell? ⟨w.heap.size, 1, none⟩ = some (.slice none 0 0) ∧
    LevsRet w ok [] [] (.returned (.tuple #[.agg #[.slice none 0 0, .slice none 0 0], .bool ok])) ((W.setCell ⟨w.heap.size, 0, none⟩ (.slice none 0 0)).setCell ⟨w.heap.size, 1, none⟩ (.slice none 0 0)) := by
  refine ⟨(World.cell?_setCell_other _ _ _ _ (by simp)).trans (World.cell?_setCell_same' _ _ _ (by rw [r0]; rfl)), World.cell?_setCell_same' _ _ _ (by rw [World.cell?_setCell_other _ _ _ _ (by simp), r1]; rfl), _, rfl, ⟨_, _, rfl, IRow.nil _ _, IRow.nil _ _, fun q hq => by cases hq⟩, ?_⟩
  exact (hb.setCell (p := ⟨w.heap.size, 0, none⟩) (Nat.le_refl _) _).setCell (p := ⟨w.heap.size, 1, none⟩) (Nat.le_refl _) _
set_option maxRecDepth 100000 in
set_option maxHeartbeats 4000000 in
theorem levelsOf_ret (v : Value) (ms : List Int) (w : World) (h : RInts w v ms) (hl : ms.length ≤ 1048576) :
    Calls Try.prog 59 #[v] w (LevsRet w (lfOk ms) (lfF ms) (lfD ms)) := by
  obtain ⟨i0, hi0, hz0, hz1, hz2⟩ := info_parts intInfo
  obtain ⟨w1, hw1⟩ : ∃ w1, w1 = w.alloc (.cells #[.slice none 0 0, .slice none 0 0] 45) := ⟨_, rfl⟩
  have hb1 : Below w.heap.size w w1 := by rw [hw1]; exact (Below.refl _ _).alloc (Nat.le_refl _) _
  have hs1 : w1.heap.size = w.heap.size + 1 := by rw [hw1]; simp
  have r0 : w1.cell? ⟨w.heap.size, 0, none⟩ = some (.slice none 0 0) := by rw [hw1]; simp [go_sem]
  have r1 : w1.cell? ⟨w.heap.size, 1, none⟩ = some (.slice none 0 0) := by rw [hw1]; simp [go_sem]
  have g0 : w1.frozen? ⟨w.heap.size, 0, none⟩ = false := by rw [hw1]; simp [go_sem]
  have g1 : w1.frozen? ⟨w.heap.size, 1, none⟩ = false := by rw [hw1]; simp [go_sem]
  have HG := Lib.hid (areMoments_ret v ms w1 (h.below hb1) hl)
  have HW := Lib.hid hw1
  have HB1 := Lib.hid hb1
  have H := Lib.hid h
  obtain ⟨A0, cap, rfl⟩ := h.shape
  clear h hw1 hb1
  by_cases hc : ((momB ms && !(ms.length % 2 == 1)) && (ms.getD 0 0 == 1)) = true
  case neg =>
    have e1 : lfOk ms = false := by unfold lfOk; rw [Bool.not_eq_true] at hc; rw [hc, Bool.false_and]
    rw [e1, (lf_no e1).1, (lf_no e1).2]
    clear e1
    rcases Bool.eq_false_or_eq_true (momB ms) with a1 | a1
    · have hs8 := (momB_of a1).1
      obtain ⟨g, o, cc, hv, hg, hcells⟩ := H.out.cells (by omega)
      have hA : A0 = some ⟨g, o, none⟩ := by injection hv
      subst hA
      clear hv
      have HCELL : Hid (∀ W, Below w.heap.size w W → W.cell? ⟨g, o, none⟩ = some (.int .i64 (ms.getD 0 0))) := Lib.hid fun W hW => (hW.cell (p := ⟨g, o + 0, none⟩) hg).trans (hcells 0 (by omega))
      rw [a1] at HG
      by_cases hod : ms.length % 2 = 0
      · have hod2 : ((ms.length : Int) % 2 == 0) = true := by rw [beq_iff_eq]; omega
        have hod3 : ((ms.length : Int) % 2 != 0) = false := by rw [bne_eq_false_iff_eq]; omega
        have hod4 : (ms.length : Int) % 2 = 0 := by omega
        have hm0 : ms.getD 0 0 ≠ 1 := fun e => hc (by rw [a1, e]; simp; omega)
        clear hc a1 hcells hod
        go_enter Try.func59, Try.ntmps59
        go_wp2_with fail
        rw [← HW.out]
        go_at_call 92
        refine HG.out.mono ?_
        rintro e w2 ⟨rfl, hb2⟩
        have k0 := HCELL.out w2 (HB1.out.trans (hb2.mono (by omega)))
        obtain ⟨x, hx⟩ : ∃ x, x = ms.getD 0 0 := ⟨_, rfl⟩
        rw [← hx] at k0 hm0
        have hx1 : (x == 1) = false := beq_eq_false_iff_ne.2 hm0
        have hx2 : (x != 1) = true := by rw [bne_iff_ne]; exact hm0
        clear hx
        have s0 := (hb2.cell (p := ⟨w.heap.size, 0, none⟩) (by show w.heap.size < _; omega)).trans r0
        have s1 := (hb2.cell (p := ⟨w.heap.size, 1, none⟩) (by show w.heap.size < _; omega)).trans r1
        have t0 := (hb2.frozen (p := ⟨w.heap.size, 0, none⟩) (by show w.heap.size < _; omega)).trans g0
        have t1 := (hb2.frozen (p := ⟨w.heap.size, 1, none⟩) (by show w.heap.size < _; omega)).trans g1
        obtain ⟨e0, e1, HF⟩ := box_undone (ok := false) (HB1.out.trans (hb2.mono (by omega))) s0 s1
        have HFF := Lib.hid HF
        clear HF r0 r1 g0 g1
        go_wp2_with fail
        refine bodyPost_ret (v := .tuple #[.agg #[.slice none 0 0, .slice none 0 0], .bool false]) ?_ rfl HFF.out
        generalize (w2.setCell ⟨w.heap.size, 0, none⟩ (.slice none 0 0)).setCell ⟨w.heap.size, 1, none⟩ (.slice none 0 0) = WF at *
        simp [results, Try.f59, go_sem, e0, e1]
      · have hod2 : ((ms.length : Int) % 2 == 0) = false := beq_eq_false_iff_ne.2 (by omega)
        have hod3 : ((ms.length : Int) % 2 != 0) = true := by rw [bne_iff_ne]; omega
        have hod4 : ¬ (ms.length : Int) % 2 = 0 := by omega
        clear hc a1 hcells hod
        go_enter Try.func59, Try.ntmps59
        go_wp2_with fail
        rw [← HW.out]
        go_at_call 92
        refine HG.out.mono ?_
        rintro e w2 ⟨rfl, hb2⟩
        have s0 := (hb2.cell (p := ⟨w.heap.size, 0, none⟩) (by show w.heap.size < _; omega)).trans r0
        have s1 := (hb2.cell (p := ⟨w.heap.size, 1, none⟩) (by show w.heap.size < _; omega)).trans r1
        have t0 := (hb2.frozen (p := ⟨w.heap.size, 0, none⟩) (by show w.heap.size < _; omega)).trans g0
        have t1 := (hb2.frozen (p := ⟨w.heap.size, 1, none⟩) (by show w.heap.size < _; omega)).trans g1
        obtain ⟨e0, e1, HF⟩ := box_undone (ok := false) (HB1.out.trans (hb2.mono (by omega))) s0 s1
        have HFF := Lib.hid HF
        clear HF r0 r1 g0 g1
        go_wp2_with fail
        refine bodyPost_ret (v := .tuple #[.agg #[.slice none 0 0, .slice none 0 0], .bool false]) ?_ rfl HFF.out
        generalize (w2.setCell ⟨w.heap.size, 0, none⟩ (.slice none 0 0)).setCell ⟨w.heap.size, 1, none⟩ (.slice none 0 0) = WF at *
        simp [results, Try.f59, go_sem, e0, e1]
    · rw [a1] at HG
      clear hc a1
      go_enter Try.func59, Try.ntmps59
      go_wp2_with fail
      rw [← HW.out]
      go_at_call 92
      refine HG.out.mono ?_
      rintro e w2 ⟨rfl, hb2⟩
      have s0 := (hb2.cell (p := ⟨w.heap.size, 0, none⟩) (by show w.heap.size < _; omega)).trans r0
      have s1 := (hb2.cell (p := ⟨w.heap.size, 1, none⟩) (by show w.heap.size < _; omega)).trans r1
      have t0 := (hb2.frozen (p := ⟨w.heap.size, 0, none⟩) (by show w.heap.size < _; omega)).trans g0
      have t1 := (hb2.frozen (p := ⟨w.heap.size, 1, none⟩) (by show w.heap.size < _; omega)).trans g1
      obtain ⟨e0, e1, HF⟩ := box_undone (ok := false) (HB1.out.trans (hb2.mono (by omega))) s0 s1
      have HFF := Lib.hid HF
      clear HF r0 r1 g0 g1
      go_wp2_with fail
      refine bodyPost_ret (v := .tuple #[.agg #[.slice none 0 0, .slice none 0 0], .bool false]) ?_ rfl HFF.out
      generalize (w2.setCell ⟨w.heap.size, 0, none⟩ (.slice none 0 0)).setCell ⟨w.heap.size, 1, none⟩ (.slice none 0 0) = WF at *
      simp [results, Try.f59, go_sem, e0, e1]
  have HC := Lib.hid hc
  simp only [Bool.and_eq_true, Bool.not_eq_true'] at hc
  obtain ⟨⟨a1, a2⟩, a3⟩ := hc
  have hs8 := (momB_of a1).1
  obtain ⟨s, hs2⟩ : ∃ s, ms.length = 2 * s := ⟨ms.length / 2, by rw [beq_eq_false_iff_ne] at a2; omega⟩
  have hs4 : s = 1 ∨ s = 2 ∨ s = 3 ∨ s = 4 := by omega
  have hod : ((ms.length : Int) % 2 == 0) = true := by rw [beq_iff_eq]; omega
  have hhalf : (ms.length : Int) / 2 = (s : Int) := by omega
  obtain ⟨g, o, cc, hv, hg, hcells⟩ := H.out.cells (by omega)
  have hA : A0 = some ⟨g, o, none⟩ := by injection hv
  subst hA
  clear hv
  have HCELL : Hid (∀ W, Below w.heap.size w W → ∀ j, j < ms.length → W.cell? ⟨g, o + j, none⟩ = some (.int .i64 (ms.getD j 0))) := Lib.hid fun W hW j hj => (hW.cell (p := ⟨g, o + j, none⟩) hg).trans (hcells j hj)
  rw [a1] at HG
  have HR : Hid (lfR ms = lfS ms s) := Lib.hid (by unfold lfR; rw [hs2]; congr 1; omega)
  have HA3 := Lib.hid (beq_iff_eq.1 a3)
  have HS4 := Lib.hid hs4
  have hn1 : ms.length ≤ 2 * s := by omega
  have hn2 : 2 * s ≤ ms.length := by omega
  have hs41 : 1 ≤ s ∧ s ≤ 4 := by omega
  clear a1 a2 a3 hcells hs2 hs4
  go_enter Try.func59, Try.ntmps59
  go_wp2_with fail
  rw [← HW.out]
  go_at_call 92
  refine HG.out.mono ?_
  rintro e w2 ⟨rfl, hb2⟩
  have e0 := HCELL.out w2 (HB1.out.trans (hb2.mono (by omega))) 0 (by omega)
  rw [Nat.add_zero, HA3.out] at e0
  have HMK : Hid (∀ W : World, (Instr.makeSlice 40 (.int .i64 (s : Int)) (.int .i64 (s : Int))).run Try.prog W = .ok (.slice (some ⟨W.heap.size, 0, none⟩) s s) (W.alloc (.cells (madeCells #[.int .i64 0] s) 3))) := Lib.hid fun W => run_make_row 40 3 i0 (.int .i64 0) Try.underlying40 hi0 hz0 hz1 rfl .i64 .i64 s (by rw [hz2]; omega) (by omega) W
  have hs2w : w.heap.size + 1 ≤ w2.heap.size := by have := hb2.size; omega
  go_wp2_with fail
  refine wp_region_inv2 (fun a0 L a W => ∃ u5 u28 u29 u30 u31 u32 u33 : Value, a = ((((((a0.put (some 5) u5).put (some 28) u28).put (some 29) u29).put (some 30) u30).put (some 31) u31).put (some 32) u32).put (some 33) u33 ∧ R4 w2 (w.heap.size + 1) s L W u5 u28 u29 u30 u31 u32 u33) (by kernel_rfl) (by kernel_rfl) ?_ ?_ ?_
  · refine ⟨undef, undef, undef, undef, undef, undef, undef, by simp only [Act.put, List.setIfInBounds_toArray, List.set_cons_succ, List.set_cons_zero], ?_⟩
    exact ⟨(Below.refl _ _).drew, (fun e => by cases e), (fun e => by cases e), (fun e => by cases e), (fun e => by cases e), (fun e => by cases e), (fun e => by cases e), (fun e => by cases e), (fun e => by cases e), (fun e => by cases e)⟩
  · rintro i op hop L a' W ⟨u5, u28, u29, u30, u31, u32, u33, rfl, hF⟩ hL hdep
    match i, hop with
    | 0, hop =>
      simp at hop; subst hop
      refine wpOp_run rfl rfl ?_
      simp only [Act.put, List.setIfInBounds_toArray, List.set_cons_succ, List.set_cons_zero]
      go_simp
      refine ⟨u5, .int .i64 (s : Int), u29, u30, u31, u32, u33, ?_, { below := hF.below, f0 := fun _ => rfl, f1 := by simpa [upd] using hF.f1, f2 := by simpa [upd] using hF.f2, f3 := by simpa [upd] using hF.f3, f4 := by simpa [upd] using hF.f4, f14 := by simpa [upd] using hF.f14, f5 := by simpa [upd] using hF.f5, f7 := by simpa [upd] using hF.f7, f6 := by simpa [upd] using hF.f6 }⟩
      simp
    | 1, hop =>
      simp at hop; subst hop
      refine wpOp_run rfl rfl ?_
      simp only [Act.put, List.setIfInBounds_toArray, List.set_cons_succ, List.set_cons_zero]
      have d0 := hF.f0 (hdep ⟨0, .data⟩ (by simp) rfl)
      subst d0
      have hmk := HMK.out W
      have hk := hF.kept ((Below.refl W.heap.size W).alloc (Nat.le_refl _) (.cells (madeCells #[.int .i64 0] s) 3))
      have hrow := made_row W s (w.heap.size + 1) (by have := hF.below.size; omega) (by omega)
      have n5 : L 5 = false := by
        cases e : L 5 with
        | false => rfl
        | true => have := (hF.f5 e).2.1; rw [hL] at this; cases this
      have n7 : L 7 = false := by
        cases e : L 7 with
        | false => rfl
        | true => have := (hF.f7 e).1; rw [n5] at this; cases this
      have p14 : upd L 1 1 = true → upd L 1 4 = true → ∀ q, (Value.slice (some ⟨W.heap.size, 0, none⟩) s s).ownBlock = some q → u32.ownBlock ≠ some q := fun _ h4 q hq e => by
        obtain ⟨g4, c4, _, _, e4⟩ := hF.f4 (by simpa [upd] using h4)
        have := (e4.blk q e).2
        have hq2 : W.heap.size = q := by injection hq
        omega
      have p6 : upd L 1 6 = true → ∃ b, u5 = .pointer (some ⟨b, 0, none⟩) ∧ w2.heap.size ≤ b ∧ b < (W.alloc (.cells (madeCells #[.int .i64 0] s) 3)).heap.size ∧ (upd L 1 7 = false → (W.alloc (.cells (madeCells #[.int .i64 0] s) 3)).heap[b]? = some (.cells #[.slice none 0 0, .slice none 0 0] 45 (0, 0))) ∧ (upd L 1 1 = true → ∀ q, (Value.slice (some ⟨W.heap.size, 0, none⟩) s s).ownBlock = some q → q ≠ b) ∧ (upd L 1 4 = true → ∀ q, u32.ownBlock = some q → q ≠ b) ∧
          (upd L 1 7 = true → (W.alloc (.cells (madeCells #[.int .i64 0] s) 3)).cell? ⟨b, 0, none⟩ = some (Value.slice (some ⟨W.heap.size, 0, none⟩) s s) ∧ (W.alloc (.cells (madeCells #[.int .i64 0] s) 3)).cell? ⟨b, 1, none⟩ = some u32) := fun e => by
        have e6 : L 6 = true := by simpa [upd] using e
        obtain ⟨b, k1, k2, k3, _, _, k6, _⟩ := hF.f6 e6
        obtain ⟨b', k1', _, _, k4, _, _, _⟩ := hk.f6 e6
        rw [k1] at k1'
        injection k1' with k1'
        injection k1' with k1'
        injection k1' with k1'
        subst k1'
        refine ⟨b, k1, k2, by simp; omega, fun _ => k4 n7, fun _ q hq => ?_, fun e4 => k6 (by simpa [upd] using e4), fun e7 => ?_⟩
        · have hq2 : W.heap.size = q := by injection hq
          omega
        · simp [upd, n7] at e7
      go_simp
      refine ⟨u5, .int .i64 (s : Int), .slice (some ⟨W.heap.size, 0, none⟩) s s, u30, u31, u32, u33, ?_, { below := hk.below, f0 := fun _ => rfl, f1 := fun _ => ⟨_, _, rfl, hF.below.size, hrow⟩, f2 := by simpa [upd] using hk.f2, f3 := by simpa [upd] using hk.f3, f4 := by simpa [upd] using hk.f4, f14 := p14, f5 := by simp [upd, n5], f7 := by simpa [upd] using hk.f7, f6 := p6 }⟩
      simp
    | 2, hop =>
      simp at hop; subst hop
      refine wpOp_run rfl rfl ?_
      simp only [Act.put, List.setIfInBounds_toArray, List.set_cons_succ, List.set_cons_zero]
      have hk := hF.kept ((Below.refl W.heap.size W).alloc (Nat.le_refl _) (.cells #[.int .i64 1] 3))
      go_simp
      refine ⟨u5, u28, u29, .slice (some ⟨W.heap.size, 0, none⟩) 1 1, u31, u32, u33, ?_, { below := hk.below, f0 := by simpa [upd] using hk.f0, f1 := by simpa [upd] using hk.f1, f2 := fun _ => ⟨W.heap.size, rfl, by simp, by simp [go_sem]⟩, f3 := by simpa [upd] using hk.f3, f4 := by simpa [upd] using hk.f4, f14 := by simpa [upd] using hk.f14, f5 := by simpa [upd] using hk.f5, f7 := by simpa [upd] using hk.f7, f6 := by simpa [upd] using hk.f6 }⟩
      simp
    | 3, hop =>
      simp at hop; subst hop
      refine wpOp_run rfl rfl ?_
      simp only [Act.put, List.setIfInBounds_toArray, List.set_cons_succ, List.set_cons_zero]
      go_simp
      refine ⟨u5, u28, u29, u30, .int .i64 (s : Int), u32, u33, ?_, { below := hF.below, f0 := by simpa [upd] using hF.f0, f1 := by simpa [upd] using hF.f1, f2 := by simpa [upd] using hF.f2, f3 := fun _ => rfl, f4 := by simpa [upd] using hF.f4, f14 := by simpa [upd] using hF.f14, f5 := by simpa [upd] using hF.f5, f7 := by simpa [upd] using hF.f7, f6 := by simpa [upd] using hF.f6 }⟩
      simp
    | 4, hop =>
      simp at hop; subst hop
      refine wpOp_run rfl rfl ?_
      simp only [Act.put, List.setIfInBounds_toArray, List.set_cons_succ, List.set_cons_zero]
      have d2 := hdep ⟨2, .data⟩ (by simp) rfl
      have d3 := hF.f3 (hdep ⟨3, .data⟩ (by simp) rfl)
      obtain ⟨g1, rfl, hg1, hc1⟩ := hF.f2 d2
      subst d3
      have n5 : L 5 = false := by
        cases e : L 5 with
        | false => rfl
        | true => have := (hF.f5 e).2.2; rw [hL] at this; cases this
      have n7 : L 7 = false := by
        cases e : L 7 with
        | false => rfl
        | true => have := (hF.f7 e).1; rw [n5] at this; cases this
      have HREP := Lib.hid (rep_one s HS4.out g1 W hg1 hc1)
      have hsb := hF.below.size
      go_simp
      go_at_call 96
      refine HREP.out.mono ?_
      rintro e w3 ⟨x, rfl, hr3, hb3⟩
      obtain ⟨g5, c5, rfl, hg5, hg6⟩ := hr3.form' (n := s) (by simp) (by omega)
      have hk := hF.kept hb3
      have p14 : upd L 4 1 = true → upd L 4 4 = true → ∀ q, u29.ownBlock = some q → (Value.slice (some ⟨g5, 0, none⟩) s c5).ownBlock ≠ some q := fun h1 _ q hq e => by
        obtain ⟨g4, c4, _, _, e4⟩ := hF.f1 (by simpa [upd] using h1)
        have := (e4.blk q hq).2
        have hq2 : g5 = q := by injection e
        omega
      have p6 : upd L 4 6 = true → ∃ b, u5 = .pointer (some ⟨b, 0, none⟩) ∧ w2.heap.size ≤ b ∧ b < w3.heap.size ∧ (upd L 4 7 = false → w3.heap[b]? = some (.cells #[.slice none 0 0, .slice none 0 0] 45 (0, 0))) ∧ (upd L 4 1 = true → ∀ q, u29.ownBlock = some q → q ≠ b) ∧ (upd L 4 4 = true → ∀ q, (Value.slice (some ⟨g5, 0, none⟩) s c5).ownBlock = some q → q ≠ b) ∧
          (upd L 4 7 = true → w3.cell? ⟨b, 0, none⟩ = some u29 ∧ w3.cell? ⟨b, 1, none⟩ = some (Value.slice (some ⟨g5, 0, none⟩) s c5)) := fun e => by
        have e6 : L 6 = true := by simpa [upd] using e
        obtain ⟨b, k1, k2, k3, _, k5, _, _⟩ := hF.f6 e6
        obtain ⟨b', k1', _, k3', k4, _, _, _⟩ := hk.f6 e6
        rw [k1] at k1'
        injection k1' with k1'
        injection k1' with k1'
        injection k1' with k1'
        subst k1'
        refine ⟨b, k1, k2, k3', fun _ => k4 n7, fun e1 => k5 (by simpa [upd] using e1), fun _ q hq => ?_, fun e7 => ?_⟩
        · have hq2 : g5 = q := by injection hq
          omega
        · simp [upd, n7] at e7
      refine ⟨u5, u28, u29, .slice (some ⟨g1, 0, none⟩) 1 1, .int .i64 (s : Int), .slice (some ⟨g5, 0, none⟩) s c5, u33, ?_, { below := hk.below, f0 := by simpa [upd] using hk.f0, f1 := by simpa [upd] using hk.f1, f2 := by simpa [upd] using hk.f2, f3 := fun _ => rfl, f4 := fun _ => ⟨g5, c5, rfl, by omega, hr3.mono (by omega)⟩, f14 := p14, f5 := by simp [upd, n5], f7 := by simpa [upd] using hk.f7, f6 := p6 }⟩
      simp
    | 5, hop =>
      simp at hop; subst hop
      refine wpOp_run rfl rfl ?_
      simp only [Act.put, List.setIfInBounds_toArray, List.set_cons_succ, List.set_cons_zero]
      have d1 := hdep ⟨1, .data⟩ (by simp) rfl
      have d4 := hdep ⟨4, .data⟩ (by simp) rfl
      obtain ⟨g1, c1, rfl, _, _⟩ := hF.f1 d1
      obtain ⟨g4, c4, rfl, _, _⟩ := hF.f4 d4
      go_simp
      refine ⟨u5, u28, .slice (some ⟨g1, 0, none⟩) s c1, u30, u31, .slice (some ⟨g4, 0, none⟩) s c4, .agg #[.slice (some ⟨g1, 0, none⟩) s c1, .slice (some ⟨g4, 0, none⟩) s c4], ?_, { below := hF.below, f0 := by simpa [upd] using hF.f0, f1 := by simpa [upd] using hF.f1, f2 := by simpa [upd] using hF.f2, f3 := by simpa [upd] using hF.f3, f4 := by simpa [upd] using hF.f4, f14 := by simpa [upd] using hF.f14, f5 := fun _ => ⟨rfl, by simp [upd, d1], by simp [upd, d4]⟩, f7 := fun e => by have := hF.f7 (by simpa [upd] using e); simp [upd, this.2], f6 := by simpa [upd] using hF.f6 }⟩
      simp
    | 6, hop =>
      simp at hop; subst hop
      refine wpOp_run rfl rfl ?_
      simp only [Act.put, List.setIfInBounds_toArray, List.set_cons_succ, List.set_cons_zero]
      have n7 : L 7 = false := by
        cases e : L 7 with
        | false => rfl
        | true => have := (hF.f7 e).2; rw [hL] at this; cases this
      have hk := hF.kept ((Below.refl W.heap.size W).alloc (Nat.le_refl _) (.cells #[.slice none 0 0, .slice none 0 0] 45))
      have hsb := hF.below.size
      have p6 : upd L 6 6 = true → ∃ b, (Value.pointer (some ⟨W.heap.size, 0, none⟩)) = .pointer (some ⟨b, 0, none⟩) ∧ w2.heap.size ≤ b ∧ b < (W.alloc (.cells #[.slice none 0 0, .slice none 0 0] 45)).heap.size ∧ (upd L 6 7 = false → (W.alloc (.cells #[.slice none 0 0, .slice none 0 0] 45)).heap[b]? = some (.cells #[.slice none 0 0, .slice none 0 0] 45 (0, 0))) ∧ (upd L 6 1 = true → ∀ q, u29.ownBlock = some q → q ≠ b) ∧ (upd L 6 4 = true → ∀ q, u32.ownBlock = some q → q ≠ b) ∧
          (upd L 6 7 = true → (W.alloc (.cells #[.slice none 0 0, .slice none 0 0] 45)).cell? ⟨b, 0, none⟩ = some u29 ∧ (W.alloc (.cells #[.slice none 0 0, .slice none 0 0] 45)).cell? ⟨b, 1, none⟩ = some u32) := fun _ => by
        refine ⟨W.heap.size, rfl, hsb, by simp, fun _ => heap_alloc_new W _, fun e1 q hq => ?_, fun e4 q hq => ?_, fun e7 => ?_⟩
        · obtain ⟨_, _, _, _, e3⟩ := hF.f1 (by simpa [upd] using e1)
          have := (e3.blk q hq).2
          omega
        · obtain ⟨_, _, _, _, e3⟩ := hF.f4 (by simpa [upd] using e4)
          have := (e3.blk q hq).2
          omega
        · simp [upd, n7] at e7
      go_simp
      refine ⟨.pointer (some ⟨W.heap.size, 0, none⟩), u28, u29, u30, u31, u32, u33, ?_, { below := hk.below, f0 := by simpa [upd] using hk.f0, f1 := by simpa [upd] using hk.f1, f2 := by simpa [upd] using hk.f2, f3 := by simpa [upd] using hk.f3, f4 := by simpa [upd] using hk.f4, f14 := by simpa [upd] using hk.f14, f5 := by simpa [upd] using hk.f5, f7 := by simp [upd, n7], f6 := p6 }⟩
      simp
    | 7, hop =>
      simp at hop; subst hop
      refine wpOp_run rfl rfl ?_
      simp only [Act.put, List.setIfInBounds_toArray, List.set_cons_succ, List.set_cons_zero]
      have d5 := hdep ⟨5, .data⟩ (by simp) rfl
      have d6 := hdep ⟨6, .data⟩ (by simp) rfl
      obtain ⟨rfl, d1, d4⟩ := hF.f5 d5
      obtain ⟨b, rfl, k2, k3, k4, _, _, _⟩ := hF.f6 d6
      obtain ⟨b0, b1, b2, b3⟩ := box_cells (k4 hL)
      have HST := Lib.hid (hF.store d1 d4 d5 d6 hL)
      obtain ⟨g1, c1, rfl, _, _⟩ := hF.f1 d1
      obtain ⟨g4, c4, rfl, _, _⟩ := hF.f4 d4
      clear hF k4
      go_simp
      exact ⟨_, _, _, _, _, _, _, ⟨rfl, rfl, rfl, rfl, rfl, rfl, rfl⟩, HST.out⟩
    | n + 8, hop => simp at hop
  · rintro L a' W hall ⟨u5, u28, u29, u30, u31, u32, u33, rfl, hF⟩
    have l1 := hall 1 (by simp)
    have l4 := hall 4 (by simp)
    have l7 := hall 7 (by simp)
    obtain ⟨gF, cF, rfl, hgF, hrF⟩ := hF.f1 l1
    obtain ⟨gD, cD, rfl, hgD, hrD⟩ := hF.f4 l4
    obtain ⟨b, rfl, k2, k3, _, k5, k6, k7⟩ := hF.f6 (hall 6 (by simp))
    have HI : Hid (ImAt w w.heap.size b (List.replicate s 0) (List.replicate s 1) (.slice (some ⟨gF, 0, none⟩) s cF) (.slice (some ⟨gD, 0, none⟩) s cD) W) := Lib.hid {
      c0 := (k7 l7).1
      c1 := (k7 l7).2
      r0 := ((hb2.mono (Nat.le_refl _)).trans (hF.below.mono (by omega)) |>.cell (p := ⟨w.heap.size, 0, none⟩) (by show w.heap.size < _; omega)).trans r0
      r1 := ((hb2.mono (Nat.le_refl _)).trans (hF.below.mono (by omega)) |>.cell (p := ⟨w.heap.size, 1, none⟩) (by show w.heap.size < _; omega)).trans r1
      g0 := ((hb2.mono (Nat.le_refl _)).trans (hF.below.mono (by omega)) |>.frozen (p := ⟨w.heap.size, 0, none⟩) (by show w.heap.size < _; omega)).trans g0
      g1 := ((hb2.mono (Nat.le_refl _)).trans (hF.below.mono (by omega)) |>.frozen (p := ⟨w.heap.size, 1, none⟩) (by show w.heap.size < _; omega)).trans g1
      rF := hrF
      rD := hrD
      ne := hF.f14 l1 l4
      nF := k5 l1
      nD := k6 l4
      hb := ⟨by omega, k3⟩
      below := HB1.out.trans ((hb2.trans (hF.below.mono (by omega))).mono (by omega)) }
    simp only [Act.put, List.setIfInBounds_toArray, List.set_cons_succ, List.set_cons_zero]
    clear hF hrF hrD hall l1 l4 l7 k5 k6 k7
    go_wp2_with fail
    have HNONE : Hid (∀ h, h < s → lfS ms (h + 1) = none → lfOk ms = false ∧ lfF ms = [] ∧ lfD ms = []) := Lib.hid fun h hh e => by
      have e2 : lfR ms = none := by rw [HR.out]; have := lfS_none e (s - (h + 1)); rwa [show h + 1 + (s - (h + 1)) = s by omega] at this
      exact ⟨lf_none e2, lf_no (lf_none e2)⟩
    go_loopw [6] (fun i wr => ∃ (n : Nat) (Fl Dn : List Int), 1 ≤ n ∧ n ≤ ms.length ∧ i = .int .i64 (n : Int) ∧ ImAt w w.heap.size b Fl Dn (.slice (some ⟨gF, 0, none⟩) s cF) (.slice (some ⟨gD, 0, none⟩) s cD) wr ∧ Hid (LfInv ms s n Fl Dn)) (fun i _ => ms.length - (intOf i).toNat)
    case atStart => exact ⟨1, _, _, Nat.le_refl _, by omega, rfl, HI.out, Lib.hid (.inl ⟨0, [], [], rfl, by omega, rfl, rfl, rfl⟩)⟩
    case round =>
      obtain ⟨n, Fl, Dn, hn1', hnl, rfl, hat, HINV⟩ := hrel
      clear HI
      by_cases hlt : n < ms.length
      · rcases HINV.out with ⟨h, fs, ds, rfl, hh, hS, rfl, rfl⟩ | ⟨h, fs, ds, a, rfl, hh, hS, hfa, rfl, rfl⟩
        · obtain ⟨l1, l2, l3, l4⟩ := lfS_ok _ _ _ hS
          obtain ⟨k, hk⟩ : ∃ k, s - h = k + 1 := ⟨s - h - 1, by omega⟩
          rw [hk, List.replicate_succ, List.replicate_succ] at hat
          have HFIT := Lib.hid (fit_any (fitF (w := w) (a := w.heap.size) (b := b) (gF := gF) (gD := gD) (n := s) (cF := cF) (cD := cD) (fs := fs) (ds := ds) (R1 := List.replicate k 0) (R2 := List.replicate k 1) (by simp; omega) (by omega) (by simp) (by omega) l3 (allB_rep k (by omega)) l4 (allB_rep k (by omega))) (ms.getD (2 * fs.length + 1) 0) 0 11 rfl (by omega) wr.drew hat.drew)
          rw [fitP_F, l1] at HFIT
          have c0 := hat.c0
          have c1 := hat.c1
          have HX := Lib.hid hat
          have m0 := HCELL.out wr hat.below (2 * h + 1) (by omega)
          have HMC : Hid (∀ W, Below w.heap.size w W → W.cell? ⟨g, o + (2 * h + 1), none⟩ = some (.int .i64 (ms.getD (2 * h + 1) 0))) := Lib.hid fun W hW => HCELL.out W hW (2 * h + 1) (by omega)
          have HS := Lib.hid hS
          have HL1 := Lib.hid l1
          have HL2 := Lib.hid l2
          have HK := Lib.hid hk
          have i1 : 2 * (h : Int) + 1 < (ms.length : Int) := by omega
          have i2 : (2 * (h : Int) + 1) / 2 = (h : Int) := by omega
          have i3 : ((2 * (h : Int) + 1) % 2 == 0) = false := beq_eq_false_iff_ne.2 (by omega)
          have i4 : (h : Int) < (s : Int) := by omega
          have i5 : 0 ≤ 2 * (h : Int) + 1 := by omega
          have i6 : (2 * (h : Int) + 1).toNat = 2 * h + 1 := by omega
          rw [show ((2 * h + 1 : Nat) : Int) = 2 * (h : Int) + 1 by omega] at HFIT ⊢
          clear hat HINV hS l1 l2 l3 l4 hk
          generalize ms.getD (2 * h + 1) 0 = m at *
          go_wp2_with fail
          go_region_held3 (fun Y => Y.cell? ⟨b, 0, none⟩ = some (.slice (some ⟨gF, 0, none⟩) s cF) ∧ Y.cell? ⟨b, 1, none⟩ = some (.slice (some ⟨gD, 0, none⟩) s cD) ∧ Y.cell? ⟨g, o + (2 * h + 1), none⟩ = some (.int .i64 m))
            (first | exact ⟨HX.out.drew.c0, HX.out.drew.c1, HMC.out _ HX.out.drew.below⟩ | exact ⟨hP.c0, hP.c1, HMC.out _ hP.below⟩)
            ((go_at_call 97; refine HFIT.out.mono ?_; rintro e w3 ⟨y, ok, rfl, hP, hf⟩))
          cases ok with
          | false =>
            have ej : ffG (pF ms fs ds) 11 0 = none := by
              rcases hf with ⟨e, _⟩ | ⟨_, e⟩
              · cases e
              · exact e
            have HE := Lib.hid (HNONE.out h hh (by rw [lfS_succ HS.out, lfT, ej]))
            have r0 := hP.r0
            have r1 := hP.r1
            have g0 := hP.g0
            have g1 := hP.g1
            obtain ⟨e0, e1, HF⟩ := hP.undone (ok := false)
            have HFF := Lib.hid HF
            clear hP HF hf
            go_wp2_with fail
            rw [HE.out.1, HE.out.2.1, HE.out.2.2]
            refine bodyPost_ret (v := .tuple #[.agg #[.slice none 0 0, .slice none 0 0], .bool false]) ?_ rfl HFF.out
            generalize (w3.setCell ⟨w.heap.size, 0, none⟩ (.slice none 0 0)).setCell ⟨w.heap.size, 1, none⟩ (.slice none 0 0) = WF at *
            simp [results, Try.f59, go_sem, e0, e1]
          | true =>
            have hj : ∃ j : Nat, ffG (pF ms fs ds) 11 0 = some j ∧ y = -5 + (j : Int) := by
              rcases hf with ⟨_, e⟩ | ⟨e, _⟩
              · exact e
              · cases e
            obtain ⟨j, ej, rfl⟩ := hj
            have HI2 : Hid (LfInv ms s (2 * h + 1 + 1) (fs ++ (-5 + (j : Int)) :: List.replicate k 0) (ds ++ 1 :: List.replicate k 1)) := Lib.hid (.inr ⟨h, fs, ds, j, rfl, hh, HS.out, ej, by rw [HK.out, Nat.add_sub_cancel]; simp, by rw [HK.out, List.replicate_succ]⟩)
            have HP2 := Lib.hid hP
            clear hP hf ej
            go_wp2_with fail
            go_roundw
            case rel => exact ⟨2 * h + 1 + 1, _, _, by omega, by omega, by go_num, HP2.out, HI2⟩
            case measure => simp [intOf]; omega
        · obtain ⟨l1, l2, l3, l4⟩ := lfS_ok _ _ _ hS
          have ha := ffG_lt _ _ _ hfa
          have hlast : ¬ 2 * h + 2 = ms.length := by omega
          obtain ⟨k, hk⟩ : ∃ k, s - h - 1 = k + 1 := ⟨s - h - 2, by omega⟩
          have hk2 : s - h = k + 1 + 1 := by omega
          obtain ⟨fs1, hfs1⟩ : ∃ l, l = fs ++ [-5 + (a : Int)] := ⟨_, rfl⟩
          have l5 : fs1.length = h + 1 := by rw [hfs1]; simp [l1]
          have l6 : allB fs1 (-5) 5 = true := by rw [hfs1]; exact allB_app l3 (allB_cons (by omega) rfl)
          rw [hk, hk2, ← hfs1, List.replicate_succ (n := k + 1) (a := (1 : Int))] at hat
          have HFIT := Lib.hid (fit_any (fitD (w := w) (a := w.heap.size) (b := b) (gF := gF) (gD := gD) (n := s) (cF := cF) (cD := cD) (fs := fs1) (ds := ds) (R1 := List.replicate (k + 1) 0) (R2 := List.replicate (k + 1) 1) (by simp; omega) (by omega) (by simp) (by simp) (by omega) l6 (allB_rep (k + 1) (by omega)) l4 (allB_rep (k + 1) (by omega))) (ms.getD (2 * ds.length + 2) 0) 1 5 rfl (by omega) wr.drew hat.drew)
          rw [fitP_D, l2] at HFIT
          have c0 := hat.c0
          have c1 := hat.c1
          have HX := Lib.hid hat
          have m0 := HCELL.out wr hat.below (2 * h + 2) (by omega)
          have HMC : Hid (∀ W, Below w.heap.size w W → W.cell? ⟨g, o + (2 * h + 2), none⟩ = some (.int .i64 (ms.getD (2 * h + 2) 0))) := Lib.hid fun W hW => HCELL.out W hW (2 * h + 2) (by omega)
          have HS := Lib.hid hS
          have HFA := Lib.hid hfa
          have HF1 := Lib.hid hfs1
          have HLA := Lib.hid hlast
          have HL1 := Lib.hid l1
          have HK := Lib.hid hk
          have i1 : 2 * (h : Int) + 2 < (ms.length : Int) := by omega
          have i2 : (2 * (h : Int) + 2) / 2 = (h : Int) + 1 := by omega
          have i3 : ((2 * (h : Int) + 2) % 2 == 0) = true := by rw [beq_iff_eq]; omega
          have i4 : (h : Int) + 1 < (s : Int) := by omega
          have i5 : 0 ≤ 2 * (h : Int) + 2 := by omega
          have i6 : (2 * (h : Int) + 2).toNat = 2 * h + 2 := by omega
          have i7 : (h : Int) < (s : Int) := by omega
          have i8 : (h : Int) + 1 - 1 = (h : Int) := by omega
          rw [show ((2 * h + 2 : Nat) : Int) = 2 * (h : Int) + 2 by omega] at HFIT ⊢
          clear hat HINV hS l1 l2 l3 l4 l5 l6 hk hk2 hfa ha hfs1 hlast
          generalize ms.getD (2 * h + 2) 0 = m at *
          go_wp2_with fail
          go_region_held3 (fun Y => Y.cell? ⟨b, 0, none⟩ = some (.slice (some ⟨gF, 0, none⟩) s cF) ∧ Y.cell? ⟨b, 1, none⟩ = some (.slice (some ⟨gD, 0, none⟩) s cD) ∧ Y.cell? ⟨g, o + (2 * h + 2), none⟩ = some (.int .i64 m))
            (first | exact ⟨HX.out.drew.c0, HX.out.drew.c1, HMC.out _ HX.out.drew.below⟩ | exact ⟨hP.c0, hP.c1, HMC.out _ hP.below⟩)
            ((go_at_call 97; refine HFIT.out.mono ?_; rintro e w3 ⟨y, ok, rfl, hP, hf⟩))
          cases ok with
          | false =>
            have ej : ffG (pD ms fs1 ds) 5 0 = none := by
              rcases hf with ⟨e, _⟩ | ⟨_, e⟩
              · cases e
              · exact e
            rw [HF1.out] at ej
            have HE := Lib.hid (HNONE.out h hh (by rw [lfS_succ HS.out, lfT, HFA.out]; simp only [if_neg HLA.out, ej]))
            have r0 := hP.r0
            have r1 := hP.r1
            have g0 := hP.g0
            have g1 := hP.g1
            obtain ⟨e0, e1, HF⟩ := hP.undone (ok := false)
            have HFF := Lib.hid HF
            clear hP HF hf
            go_wp2_with fail
            rw [HE.out.1, HE.out.2.1, HE.out.2.2]
            refine bodyPost_ret (v := .tuple #[.agg #[.slice none 0 0, .slice none 0 0], .bool false]) ?_ rfl HFF.out
            generalize (w3.setCell ⟨w.heap.size, 0, none⟩ (.slice none 0 0)).setCell ⟨w.heap.size, 1, none⟩ (.slice none 0 0) = WF at *
            simp [results, Try.f59, go_sem, e0, e1]
          | true =>
            have hj : ∃ j : Nat, ffG (pD ms fs1 ds) 5 0 = some j ∧ y = 1 + (j : Int) := by
              rcases hf with ⟨_, e⟩ | ⟨e, _⟩
              · exact e
              · cases e
            obtain ⟨j, ej, rfl⟩ := hj
            have ej2 := ej
            rw [HF1.out] at ej2
            have HSS : Hid (lfS ms (h + 1) = some (fs1, ds ++ [1 + (j : Int)])) := Lib.hid (by
              rw [lfS_succ HS.out, lfT, HFA.out]
              simp only [if_neg HLA.out, ej2]
              rw [HF1.out])
            have HI2 : Hid (LfInv ms s (2 * h + 2 + 1) (fs1 ++ List.replicate (k + 1) 0) (ds ++ (1 + (j : Int)) :: List.replicate (k + 1) 1)) := Lib.hid (.inl ⟨h + 1, fs1, _, by omega, by omega, HSS.out, by rw [show s - (h + 1) = k + 1 by have := HK.out; omega], by rw [show s - (h + 1) = k + 1 by have := HK.out; omega]; simp⟩)
            have HP2 := Lib.hid hP
            clear hP hf ej ej2
            go_wp2_with fail
            go_roundw
            case rel => exact ⟨2 * h + 2 + 1, _, _, by omega, by omega, by go_num, HP2.out, HI2⟩
            case measure => simp [intOf]; omega
      · obtain rfl : n = ms.length := by omega
        rcases HINV.out with ⟨h, fs, ds, hn, hh, hS, rfl, rfl⟩ | ⟨h, fs, ds, a, hn, hh, hS, hfa, rfl, rfl⟩
        · omega
        · have e1 : s - h - 1 = 0 := by omega
          have e2 : s - h = 1 := by omega
          rw [e1, e2] at hat
          have e3 : (fs ++ [-5 + (a : Int)]) ++ List.replicate 0 (0 : Int) = fs ++ [-5 + (a : Int)] := by simp
          have e4 : ds ++ List.replicate 1 (1 : Int) = ds ++ [1] := rfl
          rw [e3, e4] at hat
          have HE : Hid (lfOk ms = true ∧ lfF ms = fs ++ [-5 + (a : Int)] ∧ lfD ms = ds ++ [1]) := Lib.hid (lf_yes HC.out (by
            rw [HR.out, show s = h + 1 by omega, lfS_succ hS, lfT, hfa]
            simp only [if_pos hn.symm]))
          have c0 := hat.c0
          have c1 := hat.c1
          have r0 := hat.r0
          have r1 := hat.r1
          have g0 := hat.g0
          have g1 := hat.g1
          obtain ⟨e5, e6, HF⟩ := hat.done (ok := true)
          have HFF := Lib.hid HF
          clear hat HF hS hfa HINV
          go_wp2_with fail
          rw [HE.out.1, HE.out.2.1, HE.out.2.2]
          refine bodyPost_ret (v := .tuple #[.agg #[.slice (some ⟨gF, 0, none⟩) s cF, .slice (some ⟨gD, 0, none⟩) s cD], .bool true]) ?_ rfl HFF.out
          generalize (wr.setCell ⟨w.heap.size, 0, none⟩ (.slice (some ⟨gF, 0, none⟩) s cF)).setCell ⟨w.heap.size, 1, none⟩ (.slice (some ⟨gD, 0, none⟩) s cD) = WF at *
          simp [results, Try.f59, go_sem, e5, e6]
end Go.Proofs.Ytnmmgpmhpjjehaa
