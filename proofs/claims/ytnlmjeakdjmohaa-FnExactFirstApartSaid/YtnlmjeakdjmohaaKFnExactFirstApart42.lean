/- Pack 42 of what FnExactFirstApart needs: StoR, NlS. -/
import Derived.Test.YtnlmjeakdjmohaaKFnExactFirstApart41
/- A drawn region of two loads and two stores into boxes that were made before it, told by what has been done. -/
namespace Go.Proofs.Ytnlmjeakdjmohaa
open Go.RowKit
set_option linter.unusedVariables false
structure SideR (B g1 g2 b1 b2 : Nat) (c1 c2 z : List Value) : Prop where
  h1 : B ≤ b1
  h2 : B ≤ b2
  bb : b1 ≠ b2
  g11 : g1 ≠ b1
  g12 : g1 ≠ b2
  g21 : g2 ≠ b1
  g22 : g2 ≠ b2
  l1 : c1.length = z.length
  l2 : c2.length = z.length
structure R8 (w0 : World) (B g1 g2 b1 b2 : Nat) (c1 c2 z : List Value) (v1 v2 : Value) (L : Nat → Bool) (W : World) (u : Nat → Value) : Prop where
  below : Below B w0 W
  k1 : ∀ i v, c1[i]? = some v → W.cell? ⟨g1, i, none⟩ = some v
  k2 : ∀ i v, c2[i]? = some v → W.cell? ⟨g2, i, none⟩ = some v
  d1 : CellsAt W b1 (if L 2 = true then c1 else z)
  d2 : CellsAt W b2 (if L 3 = true then c2 else z)
  e0 : L 0 = true → u 0 = v1
  e1 : L 1 = true → u 1 = v2
  e4 : L 4 = true → u 4 = .bool true
namespace R8
variable {w0 W : World} {B g1 g2 b1 b2 : Nat} {c1 c2 z : List Value} {v1 v2 : Value} {L : Nat → Bool} {u : Nat → Value}
theorem set0 (h : R8 w0 B g1 g2 b1 b2 c1 c2 z v1 v2 L W u) : R8 w0 B g1 g2 b1 b2 c1 c2 z v1 v2 (upd L 0) W (upg u 0 v1) :=
  ⟨h.below, h.k1, h.k2, h.d1, h.d2, fun _ => upg_same _ _ _, h.e1, h.e4⟩
theorem set1 (h : R8 w0 B g1 g2 b1 b2 c1 c2 z v1 v2 L W u) : R8 w0 B g1 g2 b1 b2 c1 c2 z v1 v2 (upd L 1) W (upg u 1 v2) :=
  ⟨h.below, h.k1, h.k2, h.d1, h.d2, h.e0, fun _ => upg_same _ _ _, h.e4⟩
theorem set4 (h : R8 w0 B g1 g2 b1 b2 c1 c2 z v1 v2 L W u) : R8 w0 B g1 g2 b1 b2 c1 c2 z v1 v2 (upd L 4) W (upg u 4 (.bool true)) :=
  ⟨h.below, h.k1, h.k2, h.d1, h.d2, h.e0, h.e1, fun _ => upg_same _ _ _⟩
theorem cells_set {b : Nat} {cs z : List Value} (hz : CellsAt W b z) (hl : cs.length = z.length) : CellsAt (RG.setN W b 0 cs) b cs := fun i v hi => by
  have hlt : i < z.length := by
    rw [← hl]
    rcases Nat.lt_or_ge i cs.length with h1 | h1
    · exact h1
    · rw [List.getElem?_eq_none h1] at hi; cases hi
  have hq := hz i (z[i]) (List.getElem?_eq_getElem hlt)
  constructor
  · have := RG.setN_at b cs 0 W i v hi ⟨_, by rw [Nat.zero_add]; exact hq.1⟩
    rwa [Nat.zero_add] at this
  · rw [RG.setN_frozen]; exact hq.2
theorem cells_other {b c : Nat} {cs xs : List Value} (h : CellsAt W c xs) (hne : c ≠ b) : CellsAt (RG.setN W b 0 cs) c xs := fun i v hi =>
  ⟨by rw [RG.setN_before b _ _ _ _ _ (.inl hne)]; exact (h i v hi).1, by rw [RG.setN_frozen]; exact (h i v hi).2⟩
theorem st2 (s : SideR B g1 g2 b1 b2 c1 c2 z) (h : R8 w0 B g1 g2 b1 b2 c1 c2 z v1 v2 L W u) (hL : L 2 = false) : R8 w0 B g1 g2 b1 b2 c1 c2 z v1 v2 (upd L 2) (RG.setN W b1 0 c1) u := by
  have hd := h.d1
  rw [hL, if_neg (by simp)] at hd
  exact ⟨RG.setN_below s.h1 _ _ _ _ h.below, fun i v hi => by rw [RG.setN_before b1 _ _ _ _ _ (.inl s.g11)]; exact h.k1 i v hi, fun i v hi => by rw [RG.setN_before b1 _ _ _ _ _ (.inl s.g21)]; exact h.k2 i v hi,
    by rw [upd_same, if_pos rfl]; exact cells_set hd s.l1, cells_other (by rw [upd_other (by decide)]; exact h.d2) s.bb.symm, h.e0, h.e1, h.e4⟩
theorem st3 (s : SideR B g1 g2 b1 b2 c1 c2 z) (h : R8 w0 B g1 g2 b1 b2 c1 c2 z v1 v2 L W u) (hL : L 3 = false) : R8 w0 B g1 g2 b1 b2 c1 c2 z v1 v2 (upd L 3) (RG.setN W b2 0 c2) u := by
  have hd := h.d2
  rw [hL, if_neg (by simp)] at hd
  exact ⟨RG.setN_below s.h2 _ _ _ _ h.below, fun i v hi => by rw [RG.setN_before b2 _ _ _ _ _ (.inl s.g12)]; exact h.k1 i v hi, fun i v hi => by rw [RG.setN_before b2 _ _ _ _ _ (.inl s.g22)]; exact h.k2 i v hi,
    cells_other (by rw [upd_other (by decide)]; exact h.d1) s.bb, by rw [upd_same, if_pos rfl]; exact cells_set hd s.l2, h.e0, h.e1, h.e4⟩
end R8
end Go.Proofs.Ytnlmjeakdjmohaa

/- The model's ncLowest: the first way that keeps off two lists of cells. -/
namespace Go.Proofs.Ytnlmjeakdjmohaa
open Go.RowKit
set_option linter.unusedVariables false
/-- two cells in their boxes, an empty way behind them, two lists that are only read -/
structure LoB (w : World) (x y u v : Int) (U : Value) (n : Nat) (xs : List Int) (O : Value) (m : Nat) (ys : List Int) (X : World) : Prop where
  a : QB w.heap.size x y X
  b : QB (w.heap.size + 1) u v X
  z : CellsAt X (w.heap.size + 1 + 1) [.int .i64 0, .int .i64 0, .string ⟨#[]⟩]
  ru : RCels X U n xs
  ro : RCels X O m ys
  lt : w.heap.size + 1 + 1 < X.heap.size
  below : Below w.heap.size w X
theorem LoB.kept {w X X' : World} {x y u v : Int} {U : Value} {n : Nat} {xs : List Int} {O : Value} {m : Nat} {ys : List Int} (h : LoB w x y u v U n xs O m ys X) (hb : Below X.heap.size X X') : LoB w x y u v U n xs O m ys X' :=
  ⟨h.a.below hb, h.b.below hb, RG.CellsAt.kept h.z h.lt hb, h.ru.below hb, h.ro.below hb, Nat.lt_of_lt_of_le h.lt hb.size, h.below.trans (hb.mono h.below.size)⟩
theorem LoB.start {w : World} {U : Value} {n : Nat} {xs : List Int} {O : Value} {m : Nat} {ys : List Int} (x y u v : Int) (hu : RCels w U n xs) (ho : RCels w O m ys) :
    LoB w x y u v U n xs O m ys (((w.alloc (.cells #[.int .i64 x, .int .i64 y] 39)).alloc (.cells #[.int .i64 u, .int .i64 v] 39)).alloc (.cells #[.int .i64 0, .int .i64 0, .string ⟨#[]⟩] 56)) := by
  have hb : Below w.heap.size w (((w.alloc (.cells #[.int .i64 x, .int .i64 y] 39)).alloc (.cells #[.int .i64 u, .int .i64 v] 39)).alloc (.cells #[.int .i64 0, .int .i64 0, .string ⟨#[]⟩] 56)) := (((Below.refl _ _).alloc (Nat.le_refl _) _).alloc (by simp) _).alloc (by simp <;> omega) _
  refine ⟨⟨by simp [go_sem], by simp [go_sem], by simp <;> omega⟩, ⟨by simp [go_sem], by simp [go_sem], by simp <;> omega⟩, ?_, hu.below hb, ho.below hb, by simp <;> omega, hb⟩
  intro i v hi
  match i, hi with
  | 0, hi => simp at hi; subst hi; exact ⟨by simp [go_sem], by simp [go_sem]⟩
  | 1, hi => simp at hi; subst hi; exact ⟨by simp [go_sem], by simp [go_sem]⟩
  | 2, hi => simp at hi; subst hi; exact ⟨by simp [go_sem], by simp [go_sem]⟩
  | i + 3, hi => simp at hi
theorem LoB.done {w X : World} {x y u v : Int} {U : Value} {n : Nat} {xs : List Int} {O : Value} {m : Nat} {ys : List Int} (h : LoB w x y u v U n xs O m ys X) (p q : Int) (r : ByteArray) (Y : World) (hY : Y = RG.setN X (w.heap.size + 1 + 1) 0 [.int .i64 p, .int .i64 q, .string r]) :
    Y.cell? ⟨w.heap.size + 1 + 1, 0, none⟩ = some (.int .i64 p) ∧ Y.cell? ⟨w.heap.size + 1 + 1, 1, none⟩ = some (.int .i64 q) ∧ Y.cell? ⟨w.heap.size + 1 + 1, 2, none⟩ = some (.string r) ∧ Below w.heap.size w Y := by
  subst hY
  have a : ∀ k z (c : Value), ([Value.int .i64 p, .int .i64 q, .string r])[k]? = some c → ([Value.int .i64 0, .int .i64 0, .string ⟨#[]⟩])[k]? = some z → (RG.setN X (w.heap.size + 1 + 1) 0 [.int .i64 p, .int .i64 q, .string r]).cell? ⟨w.heap.size + 1 + 1, k, none⟩ = some c := fun k z c hc hz => by
    have := RG.setN_at (w.heap.size + 1 + 1) _ 0 X k c hc ⟨z, by rw [Nat.zero_add]; exact (h.z k z hz).1⟩
    rwa [Nat.zero_add] at this
  exact ⟨a 0 _ _ rfl rfl, a 1 _ _ rfl rfl, a 2 _ _ rfl rfl, RG.setN_below (by omega) _ _ _ _ h.below⟩
def loW (x y : Int) : Option (List UInt8) → Value
  | none => .agg #[.int .i64 0, .int .i64 0, .string ⟨#[]⟩]
  | some p => .agg #[.int .i64 x, .int .i64 y, .string (txT p)]
def loJ (a b : Option (List UInt8)) : Option (List UInt8) := match a with
  | some p => some (69 :: p)
  | none => b.map (List.cons 78)
theorem head_two (A B : List (List UInt8)) : ((A.map (List.cons 69)) ++ (B.map (List.cons 78))).head? = loJ A.head? B.head? := by
  cases A with
  | cons a A => rfl
  | nil => cases B with
    | cons b B => rfl
    | nil => rfl
theorem ncV_pos {x y u v : Int} (h1 : x ≤ u) (h2 : y ≤ v) : (ncV x y u v == 0) = false := by
  unfold ncV
  obtain ⟨p, hp⟩ := Int.eq_ofNat_of_zero_le (show 0 ≤ u - x by omega)
  obtain ⟨q, hq⟩ := Int.eq_ofNat_of_zero_le (show 0 ≤ v - y by omega)
  rw [if_neg (by omega), hp, hq, ← Int.natCast_add, chZ_nat]
  have := chs_pos (p + q) p (by omega)
  exact beq_eq_false_iff_ne.2 (by omega)
theorem ncV_zero {x y u v : Int} (h : u < x ∨ v < y) : (ncV x y u v == 0) = true := by
  unfold ncV
  rw [if_pos (by omega)]
  rfl
set_option maxRecDepth 100000 in
set_option maxHeartbeats 4000000 in
theorem ncLowest_no (U : Value) (n : Nat) (xs : List Int) (O : Value) (m : Nat) (ys : List Int) (hn : n ≤ 1048576) (hm : m ≤ 1048576) (x y u v : Int) (w : World) (hu : RCels w U n xs) (ho : RCels w O m ys)
    (hx : 0 ≤ x ∧ x ≤ 50) (hy : 0 ≤ y ∧ y ≤ 50) (hu2 : 0 ≤ u ∧ u ≤ 20) (hv2 : 0 ≤ v ∧ v ≤ 20)
    (hno : u < x ∨ v < y ∨ (hasF n xs x y || hasF m ys x y) = true) :
    Calls Try.prog 72 #[celV x y, celV u v, U, O] w (Ret w (.tuple #[loW x y none, .bool false])) := by
  have HX := Lib.hid (LoB.start x y u v hu ho)
  have HU : Hid (∀ w', RCels w' U n xs → Calls Try.prog 115 #[U, celV x y] w' (Ret w' (.bool (hasF n xs x y)))) := Lib.hid fun w' h => ncHas_any U n xs x y w' h hn
  have HO : Hid (∀ w', RCels w' O m ys → Calls Try.prog 115 #[O, celV x y] w' (Ret w' (.bool (hasF m ys x y)))) := Lib.hid fun w' h => ncHas_any O m ys x y w' h hm
  have HC : Hid (∀ w', Calls Try.prog 116 #[celV x y, celV u v] w' (Ret w' (.int .i64 (ncV x y u v)))) := Lib.hid fun w' => ncCount_any x y u v w' (by omega) (by omega) (by omega) (by omega) (by omega)
  obtain ⟨A1, c1, rfl⟩ := hu.shape
  obtain ⟨A2, c2, rfl⟩ := ho.shape
  clear hu ho
  have HZ : Hid (hasF n xs x y = false → hasF m ys x y = false → (ncV x y u v == 0) = true) := Lib.hid fun h1 h2 => ncV_zero (by rw [h1, h2] at hno; simpa using hno)
  clear hno
  generalize hasF n xs x y = b1 at *
  generalize hasF m ys x y = b2 at *
  generalize ncV x y u v = c at *
  have hx := HX.out
  have r0 := hx.a.c0; have r1 := hx.a.c1; have r3 := hx.b.c0; have r4 := hx.b.c1; have y0 := hx.z 0 _ rfl; have y1 := hx.z 1 _ rfl; have y2 := hx.z 2 _ rfl; have z0 := y0.1; have z1 := y1.1; have z2 := y2.1; have f0 := y0.2; have f1 := y1.2; have f2 := y2.2; have lt0 := hx.lt; clear y0 y1 y2
  clear hx
  go_enter Try.func72, Try.ntmps72
  go_wp2_with fail
  refine (HU.out _ HX.out.ru).mono ?_
  rintro e w1 ⟨rfl, hb1⟩
  have hx := HX.out.kept hb1
  have HX1 := Lib.hid hx
  clear r0 r1 r3 r4 z0 z1 z2 f0 f1 f2 lt0
  have r0 := hx.a.c0; have r1 := hx.a.c1; have r3 := hx.b.c0; have r4 := hx.b.c1; have y0 := hx.z 0 _ rfl; have y1 := hx.z 1 _ rfl; have y2 := hx.z 2 _ rfl; have z0 := y0.1; have z1 := y1.1; have z2 := y2.1; have f0 := y0.2; have f1 := y1.2; have f2 := y2.2; have lt0 := hx.lt; clear y0 y1 y2
  clear hx
  cases b1 with
  | true =>
    go_wp2_with fail
    obtain ⟨a0, a1, a2, hzb⟩ := HX1.out.done 0 0 ⟨#[]⟩ _ rfl
    simp only [RG.setN, Nat.zero_add] at a0 a1 a2 hzb
    refine bodyPost_ret (v := .tuple #[.agg #[.int .i64 0, .int .i64 0, .string ⟨#[]⟩], .bool false]) ?_ rfl ⟨rfl, hzb⟩
    simp [results, Try.f72, go_sem, a0, a1, a2]
  | false =>
    go_wp2_with fail
    refine (HO.out _ HX1.out.ro).mono ?_
    rintro e w2 ⟨rfl, hb2⟩
    have hx := HX1.out.kept hb2
    have HX2 := Lib.hid hx
    clear r0 r1 r3 r4 z0 z1 z2 f0 f1 f2 lt0
    have r0 := hx.a.c0; have r1 := hx.a.c1; have r3 := hx.b.c0; have r4 := hx.b.c1; have y0 := hx.z 0 _ rfl; have y1 := hx.z 1 _ rfl; have y2 := hx.z 2 _ rfl; have z0 := y0.1; have z1 := y1.1; have z2 := y2.1; have f0 := y0.2; have f1 := y1.2; have f2 := y2.2; have lt0 := hx.lt; clear y0 y1 y2
    clear hx
    cases b2 with
    | true =>
      go_wp2_with fail
      obtain ⟨a0, a1, a2, hzb⟩ := HX2.out.done 0 0 ⟨#[]⟩ _ rfl
      simp only [RG.setN, Nat.zero_add] at a0 a1 a2 hzb
      refine bodyPost_ret (v := .tuple #[.agg #[.int .i64 0, .int .i64 0, .string ⟨#[]⟩], .bool false]) ?_ rfl ⟨rfl, hzb⟩
      simp [results, Try.f72, go_sem, a0, a1, a2]
    | false =>
      have i1 := HZ.out (by simp) (by simp)
      go_wp2_with fail
      refine (HC.out _).mono ?_
      rintro e w3 ⟨rfl, hb3⟩
      have hx := HX2.out.kept hb3
      have HX3 := Lib.hid hx
      clear r0 r1 r3 r4 z0 z1 z2 f0 f1 f2 lt0
      have r0 := hx.a.c0; have r1 := hx.a.c1; have r3 := hx.b.c0; have r4 := hx.b.c1; have y0 := hx.z 0 _ rfl; have y1 := hx.z 1 _ rfl; have y2 := hx.z 2 _ rfl; have z0 := y0.1; have z1 := y1.1; have z2 := y2.1; have f0 := y0.2; have f1 := y1.2; have f2 := y2.2; have lt0 := hx.lt; clear y0 y1 y2
      clear hx
      go_wp2_with fail
      obtain ⟨a0, a1, a2, hzb⟩ := HX3.out.done 0 0 ⟨#[]⟩ _ rfl
      simp only [RG.setN, Nat.zero_add] at a0 a1 a2 hzb
      refine bodyPost_ret (v := .tuple #[.agg #[.int .i64 0, .int .i64 0, .string ⟨#[]⟩], .bool false]) ?_ rfl ⟨rfl, hzb⟩
      simp [results, Try.f72, go_sem, a0, a1, a2]
set_option maxRecDepth 100000 in
set_option maxHeartbeats 1000000 in
theorem ncLowest_end (U : Value) (n : Nat) (xs : List Int) (O : Value) (m : Nat) (ys : List Int) (hn : n ≤ 1048576) (hm : m ≤ 1048576) (x y : Int) (w : World) (hu : RCels w U n xs) (ho : RCels w O m ys)
    (hx : 0 ≤ x ∧ x ≤ 20) (hy : 0 ≤ y ∧ y ≤ 20) (h1 : hasF n xs x y = false) (h2 : hasF m ys x y = false) :
    Calls Try.prog 72 #[celV x y, celV x y, U, O] w (Ret w (.tuple #[loW x y (some []), .bool true])) := by
  have HX := Lib.hid (LoB.start x y x y hu ho)
  have HU : Hid (∀ w', RCels w' U n xs → Calls Try.prog 115 #[U, celV x y] w' (Ret w' (.bool false))) := Lib.hid fun w' h => by have := ncHas_any U n xs x y w' h hn; rwa [h1] at this
  have HO : Hid (∀ w', RCels w' O m ys → Calls Try.prog 115 #[O, celV x y] w' (Ret w' (.bool false))) := Lib.hid fun w' h => by have := ncHas_any O m ys x y w' h hm; rwa [h2] at this
  have HC : Hid (∀ w', Calls Try.prog 116 #[celV x y, celV x y] w' (Ret w' (.int .i64 (ncV x y x y)))) := Lib.hid fun w' => ncCount_any x y x y w' (by omega) (by omega) (by omega) (by omega) (by omega)
  obtain ⟨A1, c1, rfl⟩ := hu.shape
  obtain ⟨A2, c2, rfl⟩ := ho.shape
  clear hu ho
  have i1 := ncV_pos (x := x) (y := y) (u := x) (v := y) (by omega) (by omega)
  generalize ncV x y x y = c at *
  have hx := HX.out
  have r0 := hx.a.c0; have r1 := hx.a.c1; have r3 := hx.b.c0; have r4 := hx.b.c1; have y0 := hx.z 0 _ rfl; have y1 := hx.z 1 _ rfl; have y2 := hx.z 2 _ rfl; have z0 := y0.1; have z1 := y1.1; have z2 := y2.1; have f0 := y0.2; have f1 := y1.2; have f2 := y2.2; have lt0 := hx.lt; clear y0 y1 y2
  clear hx
  go_enter Try.func72, Try.ntmps72
  go_wp2_with fail
  refine (HU.out _ HX.out.ru).mono ?_
  rintro e w1 ⟨rfl, hb1⟩
  have hx := HX.out.kept hb1
  have HX1 := Lib.hid hx
  clear r0 r1 r3 r4 z0 z1 z2 f0 f1 f2 lt0
  have r0 := hx.a.c0; have r1 := hx.a.c1; have r3 := hx.b.c0; have r4 := hx.b.c1; have y0 := hx.z 0 _ rfl; have y1 := hx.z 1 _ rfl; have y2 := hx.z 2 _ rfl; have z0 := y0.1; have z1 := y1.1; have z2 := y2.1; have f0 := y0.2; have f1 := y1.2; have f2 := y2.2; have lt0 := hx.lt; clear y0 y1 y2
  clear hx
  go_wp2_with fail
  refine (HO.out _ HX1.out.ro).mono ?_
  rintro e w2 ⟨rfl, hb2⟩
  have hx := HX1.out.kept hb2
  have HX2 := Lib.hid hx
  clear r0 r1 r3 r4 z0 z1 z2 f0 f1 f2 lt0
  have r0 := hx.a.c0; have r1 := hx.a.c1; have r3 := hx.b.c0; have r4 := hx.b.c1; have y0 := hx.z 0 _ rfl; have y1 := hx.z 1 _ rfl; have y2 := hx.z 2 _ rfl; have z0 := y0.1; have z1 := y1.1; have z2 := y2.1; have f0 := y0.2; have f1 := y1.2; have f2 := y2.2; have lt0 := hx.lt; clear y0 y1 y2
  clear hx
  go_wp2_with fail
  refine (HC.out _).mono ?_
  rintro e w3 ⟨rfl, hb3⟩
  have hx := HX2.out.kept hb3
  have HX3 := Lib.hid hx
  clear r0 r1 r3 r4 z0 z1 z2 f0 f1 f2 lt0
  have r0 := hx.a.c0; have r1 := hx.a.c1; have r3 := hx.b.c0; have r4 := hx.b.c1; have y0 := hx.z 0 _ rfl; have y1 := hx.z 1 _ rfl; have y2 := hx.z 2 _ rfl; have z0 := y0.1; have z1 := y1.1; have z2 := y2.1; have f0 := y0.2; have f1 := y1.2; have f2 := y2.2; have lt0 := hx.lt; clear y0 y1 y2
  clear hx hb1 hb2 hb3 HX HX1 HX2
  go_wp2_with fail
  obtain ⟨a0, a1, a2, hzb⟩ := HX3.out.done x y ⟨#[]⟩ _ rfl
  simp only [RG.setN, Nat.zero_add] at a0 a1 a2 hzb
  refine bodyPost_ret (v := .tuple #[.agg #[.int .i64 x, .int .i64 y, .string ⟨#[]⟩], .bool true]) ?_ rfl ⟨rfl, hzb⟩
  simp [results, Try.f72, go_sem, a0, a1, a2]
theorem two_letters (w : World) : CellsAt (w.alloc (.cells #[.string ⟨#[69]⟩, .string ⟨#[78]⟩] 9)) w.heap.size [.string ⟨#[69]⟩, .string ⟨#[78]⟩] := by
  intro i v hi
  match i, hi with
  | 0, hi => simp at hi; subst hi; exact ⟨by simp [go_sem], by simp [go_sem]⟩
  | 1, hi => simp at hi; subst hi; exact ⟨by simp [go_sem], by simp [go_sem]⟩
  | i + 2, hi => simp at hi
/-- the two letters and what is kept beside them -/
def LoL (w : World) (x y u v : Int) (U : Value) (n : Nat) (xs : List Int) (O : Value) (m : Nat) (ys : List Int) (g : Nat) (X : World) : Prop :=
  LoB w x y u v U n xs O m ys X ∧ CellsAt X g [.string ⟨#[69]⟩, .string ⟨#[78]⟩] ∧ g < X.heap.size
theorem LoL.kept {w X X' : World} {x y u v : Int} {U : Value} {n : Nat} {xs : List Int} {O : Value} {m : Nat} {ys : List Int} {g : Nat} (h : LoL w x y u v U n xs O m ys g X) (hb : Below X.heap.size X X') : LoL w x y u v U n xs O m ys g X' :=
  ⟨h.1.kept hb, RG.CellsAt.kept h.2.1 h.2.2 hb, Nat.lt_of_lt_of_le h.2.2 hb.size⟩
set_option maxRecDepth 100000 in
set_option maxHeartbeats 4000000 in
theorem ncLowest_step (U : Value) (n : Nat) (xs : List Int) (O : Value) (m : Nat) (ys : List Int) (hn : n ≤ 1048576) (hm : m ≤ 1048576) (x y u v : Int) (w : World) (hu : RCels w U n xs) (ho : RCels w O m ys) (rE rN : Option (List UInt8))
    (hx : 0 ≤ x ∧ x ≤ u) (hy : 0 ≤ y ∧ y ≤ v) (hu2 : 0 ≤ u ∧ u ≤ 20) (hv2 : 0 ≤ v ∧ v ≤ 20) (h1 : hasF n xs x y = false) (h2 : hasF m ys x y = false) (hne : (x == u && y == v) = false)
    (hE : Hid (∀ w, RCels w U n xs → RCels w O m ys → Calls Try.prog 72 #[celV (x + 1) y, celV u v, U, O] w (Ret w (.tuple #[loW (x + 1) y rE, .bool rE.isSome]))))
    (hN : Hid (∀ w, RCels w U n xs → RCels w O m ys → Calls Try.prog 72 #[celV x (y + 1), celV u v, U, O] w (Ret w (.tuple #[loW x (y + 1) rN, .bool rN.isSome]))))
    (lE : ∀ p, rE = some p → p.length ≤ 60) (lN : ∀ p, rN = some p → p.length ≤ 60) (r : Option (List UInt8)) (hr : r = loJ rE rN) :
    Calls Try.prog 72 #[celV x y, celV u v, U, O] w (Ret w (.tuple #[loW x y r, .bool r.isSome])) := by
  have HX := Lib.hid (LoB.start x y u v hu ho)
  have HU : Hid (∀ w', RCels w' U n xs → Calls Try.prog 115 #[U, celV x y] w' (Ret w' (.bool false))) := Lib.hid fun w' h => by have := ncHas_any U n xs x y w' h hn; rwa [h1] at this
  have HO : Hid (∀ w', RCels w' O m ys → Calls Try.prog 115 #[O, celV x y] w' (Ret w' (.bool false))) := Lib.hid fun w' h => by have := ncHas_any O m ys x y w' h hm; rwa [h2] at this
  have HC : Hid (∀ w', Calls Try.prog 116 #[celV x y, celV u v] w' (Ret w' (.int .i64 (ncV x y u v)))) := Lib.hid fun w' => ncCount_any x y u v w' (by omega) (by omega) (by omega) (by omega) (by omega)
  obtain ⟨A1, c1, rfl⟩ := hu.shape
  obtain ⟨A2, c2, rfl⟩ := ho.shape
  clear hu ho
  have i1 := ncV_pos (x := x) (y := y) (u := u) (v := v) (by omega) (by omega)
  generalize ncV x y u v = c at *
  have hx := HX.out
  have r0 := hx.a.c0; have r1 := hx.a.c1; have r3 := hx.b.c0; have r4 := hx.b.c1; have y0 := hx.z 0 _ rfl; have y1 := hx.z 1 _ rfl; have y2 := hx.z 2 _ rfl; have z0 := y0.1; have z1 := y1.1; have z2 := y2.1; have f0 := y0.2; have f1 := y1.2; have f2 := y2.2; have lt0 := hx.lt; clear y0 y1 y2
  clear hx
  have k1 := IntWalk.i64_in (x + 1) (by omega)
  have k2 := IntWalk.i64_in (y + 1) (by omega)
  clear h1 h2
  have HR := Lib.hid hr
  have HLE := Lib.hid lE
  have HLN := Lib.hid lN
  clear hr lE lN
  rcases Bool.eq_false_or_eq_true (x == u) with t0 | t0
  · have t1 : (y == v) = false := by rw [t0, Bool.true_and] at hne; exact hne
    clear hne
    go_enter Try.func72, Try.ntmps72
    go_wp2_with fail
    refine (HU.out _ HX.out.ru).mono ?_
    rintro e w1 ⟨rfl, hb1⟩
    have hx := HX.out.kept hb1
    have HX1 := Lib.hid hx
    clear r0 r1 r3 r4 z0 z1 z2 f0 f1 f2 lt0
    have r0 := hx.a.c0; have r1 := hx.a.c1; have r3 := hx.b.c0; have r4 := hx.b.c1; have y0 := hx.z 0 _ rfl; have y1 := hx.z 1 _ rfl; have y2 := hx.z 2 _ rfl; have z0 := y0.1; have z1 := y1.1; have z2 := y2.1; have f0 := y0.2; have f1 := y1.2; have f2 := y2.2; have lt0 := hx.lt; clear y0 y1 y2
    clear hx
    go_wp2_with fail
    refine (HO.out _ HX1.out.ro).mono ?_
    rintro e w2 ⟨rfl, hb2⟩
    have hx := HX1.out.kept hb2
    have HX2 := Lib.hid hx
    clear r0 r1 r3 r4 z0 z1 z2 f0 f1 f2 lt0
    have r0 := hx.a.c0; have r1 := hx.a.c1; have r3 := hx.b.c0; have r4 := hx.b.c1; have y0 := hx.z 0 _ rfl; have y1 := hx.z 1 _ rfl; have y2 := hx.z 2 _ rfl; have z0 := y0.1; have z1 := y1.1; have z2 := y2.1; have f0 := y0.2; have f1 := y1.2; have f2 := y2.2; have lt0 := hx.lt; clear y0 y1 y2
    clear hx
    go_wp2_with fail
    refine (HC.out _).mono ?_
    rintro e w3 ⟨rfl, hb3⟩
    have hx := HX2.out.kept hb3
    have HX3 := Lib.hid hx
    clear r0 r1 r3 r4 z0 z1 z2 f0 f1 f2 lt0
    have r0 := hx.a.c0; have r1 := hx.a.c1; have r3 := hx.b.c0; have r4 := hx.b.c1; have y0 := hx.z 0 _ rfl; have y1 := hx.z 1 _ rfl; have y2 := hx.z 2 _ rfl; have z0 := y0.1; have z1 := y1.1; have z2 := y2.1; have f0 := y0.2; have f1 := y1.2; have f2 := y2.2; have lt0 := hx.lt; clear y0 y1 y2
    clear hx hb1 hb2 hb3 HX HX1 HX2
    go_wp2_with fail
    have HLL : Hid (LoL w x y u v (.slice A1 n c1) n xs (.slice A2 m c2) m ys w3.heap.size _) := Lib.hid ⟨HX3.out.kept ((Below.refl _ _).alloc (Nat.le_refl _) _), two_letters w3, by simp⟩
    clear r0 r1 r3 r4 z0 z1 z2 f0 f1 f2 lt0
    clear HX3
    obtain ⟨g, hg⟩ : ∃ g, w3.heap.size = g := ⟨_, rfl⟩
    rw [hg] at HLL ⊢
    go_loopw [37] (fun i wr => ∃ k : Nat, k ≤ 2 ∧ i = .int .i64 (k : Int) ∧ (k ≠ 0 → rE = none) ∧ (k = 2 → rN = none) ∧ LoL w x y u v (.slice A1 n c1) n xs (.slice A2 m c2) m ys g wr) (fun i _ => 2 - (intOf i).toNat)
    case atStart => exact ⟨0, by omega, rfl, fun h => absurd rfl h, fun h => absurd h (by omega), HLL.out⟩
    case round =>
      obtain ⟨k, hk, rfl, hk1, hk2, hll⟩ := hrel
      clear HLL hg
      have hx := hll.1
      have L0 := hll.2.1 0 _ rfl
      have L1 := hll.2.1 1 _ rfl
      have l0 := L0.1
      have l1 := L1.1
      have HL := Lib.hid hll
      clear hll L0 L1
      have r0 := hx.a.c0; have r1 := hx.a.c1; have r3 := hx.b.c0; have r4 := hx.b.c1; have y0 := hx.z 0 _ rfl; have y1 := hx.z 1 _ rfl; have y2 := hx.z 2 _ rfl; have z0 := y0.1; have z1 := y1.1; have z2 := y2.1; have f0 := y0.2; have f1 := y1.2; have f2 := y2.2; have lt0 := hx.lt; clear y0 y1 y2
      clear hx
      have n0 : w.heap.size < wr.heap.size := by omega
      have n1 : w.heap.size + 1 < wr.heap.size := by omega
      have n2 := HL.out.2.2
      rcases (show k = 0 ∨ k = 1 ∨ k = 2 by omega) with rfl | rfl | rfl
      · clear hk hk1 hk2
        go_wp2_with fail
        have HL1 := Lib.hid (HL.out.kept ((Below.refl _ _).alloc (Nat.le_refl _) (.cells #[.int .i64 (x + 1), .int .i64 y] 39)))
        refine (hE.out _ HL1.out.1.ru HL1.out.1.ro).mono ?_
        rintro e w4 ⟨rfl, hb4⟩
        have HL2 := Lib.hid (HL1.out.kept hb4)
        clear HL HL1 n0 n1 n2
        clear r0 r1 r3 r4 z0 z1 z2 f0 f1 f2 lt0
        have hx := HL2.out.1
        have r0 := hx.a.c0; have r1 := hx.a.c1; have r3 := hx.b.c0; have r4 := hx.b.c1; have y0 := hx.z 0 _ rfl; have y1 := hx.z 1 _ rfl; have y2 := hx.z 2 _ rfl; have z0 := y0.1; have z1 := y1.1; have z2 := y2.1; have f0 := y0.2; have f1 := y1.2; have f2 := y2.2; have lt0 := hx.lt; clear y0 y1 y2
        clear hx
        have n0 : w.heap.size < w4.heap.size := by omega
        have n1 : w.heap.size + 1 < w4.heap.size := by omega
        have n3 : w.heap.size + 1 + 1 < w4.heap.size := by omega
        cases rE with
        | none =>
          rw [show loW (x + 1) y none = Value.agg #[.int .i64 0, .int .i64 0, .string ⟨#[]⟩] from rfl, show (none : Option (List UInt8)).isSome = false from rfl]
          go_wp2_with fail
          go_roundw
          case rel => exact ⟨1, by omega, by go_num, fun _ => by trivial, fun h => absurd h (by omega), HL2.out.kept ((Below.refl _ _).alloc (Nat.le_refl _) _)⟩
          case measure => first | (simp [intOf]; done) | (simp [intOf]; omega)
        | some p =>
          have hss : (txT p).size ≤ 60 := by rw [txT_size]; exact HLE.out p rfl
          have HV : Hid (Value.tuple #[loW x y r, .bool r.isSome] = .tuple #[.agg #[.int .i64 x, .int .i64 y, .string (⟨#[69]⟩ ++ txT p)], .bool true]) := Lib.hid (by
            rw [HR.out, show loJ (some p) rN = some (69 :: p) from rfl, show loW x y (some (69 :: p)) = Value.agg #[.int .i64 x, .int .i64 y, .string (txT (69 :: p))] from rfl, txT_cons]
            rfl)
          rw [show loW (x + 1) y (some p) = Value.agg #[.int .i64 (x + 1), .int .i64 y, .string (txT p)] from rfl, show (some p : Option (List UInt8)).isSome = true from rfl]
          generalize txT p = tp at *
          go_wp2_with fail
          obtain ⟨a0, a1, a2, hzb⟩ := HL2.out.1.done x y (⟨#[69]⟩ ++ tp) _ rfl
          simp only [RG.setN, Nat.zero_add] at a0 a1 a2 hzb
          refine bodyPost_ret (v := .tuple #[.agg #[.int .i64 x, .int .i64 y, .string (⟨#[69]⟩ ++ tp)], .bool true]) ?_ rfl ⟨by rw [HV.out], hzb.alloc (by simp <;> omega) _⟩
          simp [results, Try.f72, go_sem, a0, a1, a2, n3]
      · have HE1 := Lib.hid (hk1 (by omega))
        clear hk hk1 hk2
        go_wp2_with fail
        have HL1 := Lib.hid (HL.out.kept ((Below.refl _ _).alloc (Nat.le_refl _) (.cells #[.int .i64 x, .int .i64 (y + 1)] 39)))
        refine (hN.out _ HL1.out.1.ru HL1.out.1.ro).mono ?_
        rintro e w4 ⟨rfl, hb4⟩
        have HL2 := Lib.hid (HL1.out.kept hb4)
        clear HL HL1 n0 n1 n2
        clear r0 r1 r3 r4 z0 z1 z2 f0 f1 f2 lt0
        have hx := HL2.out.1
        have r0 := hx.a.c0; have r1 := hx.a.c1; have r3 := hx.b.c0; have r4 := hx.b.c1; have y0 := hx.z 0 _ rfl; have y1 := hx.z 1 _ rfl; have y2 := hx.z 2 _ rfl; have z0 := y0.1; have z1 := y1.1; have z2 := y2.1; have f0 := y0.2; have f1 := y1.2; have f2 := y2.2; have lt0 := hx.lt; clear y0 y1 y2
        clear hx
        have n0 : w.heap.size < w4.heap.size := by omega
        have n1 : w.heap.size + 1 < w4.heap.size := by omega
        have n3 : w.heap.size + 1 + 1 < w4.heap.size := by omega
        cases rN with
        | none =>
          rw [show loW x (y + 1) none = Value.agg #[.int .i64 0, .int .i64 0, .string ⟨#[]⟩] from rfl, show (none : Option (List UInt8)).isSome = false from rfl]
          go_wp2_with fail
          go_roundw
          case rel => exact ⟨2, by omega, by go_num, fun _ => HE1.out, fun _ => by trivial, HL2.out.kept ((Below.refl _ _).alloc (Nat.le_refl _) _)⟩
          case measure => first | (simp [intOf]; done) | (simp [intOf]; omega)
        | some p =>
          have hss : (txT p).size ≤ 60 := by rw [txT_size]; exact HLN.out p rfl
          have HV : Hid (Value.tuple #[loW x y r, .bool r.isSome] = .tuple #[.agg #[.int .i64 x, .int .i64 y, .string (⟨#[78]⟩ ++ txT p)], .bool true]) := Lib.hid (by
            rw [HR.out, HE1.out, show loJ none (some p) = some (78 :: p) from rfl, show loW x y (some (78 :: p)) = Value.agg #[.int .i64 x, .int .i64 y, .string (txT (78 :: p))] from rfl, txT_cons]
            rfl)
          rw [show loW x (y + 1) (some p) = Value.agg #[.int .i64 x, .int .i64 (y + 1), .string (txT p)] from rfl, show (some p : Option (List UInt8)).isSome = true from rfl]
          generalize txT p = tp at *
          go_wp2_with fail
          obtain ⟨a0, a1, a2, hzb⟩ := HL2.out.1.done x y (⟨#[78]⟩ ++ tp) _ rfl
          simp only [RG.setN, Nat.zero_add] at a0 a1 a2 hzb
          refine bodyPost_ret (v := .tuple #[.agg #[.int .i64 x, .int .i64 y, .string (⟨#[78]⟩ ++ tp)], .bool true]) ?_ rfl ⟨by rw [HV.out], hzb.alloc (by simp <;> omega) _⟩
          simp [results, Try.f72, go_sem, a0, a1, a2, n3]
      · have HE1 := Lib.hid (hk1 (by omega))
        have HE2 := Lib.hid (hk2 rfl)
        clear hk hk1 hk2
        go_wp2_with fail
        have HXX := Lib.hid HL.out.1
        obtain ⟨a0, a1, a2, hzb⟩ := HXX.out.done 0 0 ⟨#[]⟩ _ rfl
        simp only [RG.setN, Nat.zero_add] at a0 a1 a2 hzb
        rw [HR.out, HE1.out, HE2.out]
        refine bodyPost_ret (v := .tuple #[.agg #[.int .i64 0, .int .i64 0, .string ⟨#[]⟩], .bool false]) ?_ rfl ⟨rfl, hzb⟩
        simp [results, Try.f72, go_sem, a0, a1, a2]
  · clear hne
    go_enter Try.func72, Try.ntmps72
    go_wp2_with fail
    refine (HU.out _ HX.out.ru).mono ?_
    rintro e w1 ⟨rfl, hb1⟩
    have hx := HX.out.kept hb1
    have HX1 := Lib.hid hx
    clear r0 r1 r3 r4 z0 z1 z2 f0 f1 f2 lt0
    have r0 := hx.a.c0; have r1 := hx.a.c1; have r3 := hx.b.c0; have r4 := hx.b.c1; have y0 := hx.z 0 _ rfl; have y1 := hx.z 1 _ rfl; have y2 := hx.z 2 _ rfl; have z0 := y0.1; have z1 := y1.1; have z2 := y2.1; have f0 := y0.2; have f1 := y1.2; have f2 := y2.2; have lt0 := hx.lt; clear y0 y1 y2
    clear hx
    go_wp2_with fail
    refine (HO.out _ HX1.out.ro).mono ?_
    rintro e w2 ⟨rfl, hb2⟩
    have hx := HX1.out.kept hb2
    have HX2 := Lib.hid hx
    clear r0 r1 r3 r4 z0 z1 z2 f0 f1 f2 lt0
    have r0 := hx.a.c0; have r1 := hx.a.c1; have r3 := hx.b.c0; have r4 := hx.b.c1; have y0 := hx.z 0 _ rfl; have y1 := hx.z 1 _ rfl; have y2 := hx.z 2 _ rfl; have z0 := y0.1; have z1 := y1.1; have z2 := y2.1; have f0 := y0.2; have f1 := y1.2; have f2 := y2.2; have lt0 := hx.lt; clear y0 y1 y2
    clear hx
    go_wp2_with fail
    refine (HC.out _).mono ?_
    rintro e w3 ⟨rfl, hb3⟩
    have hx := HX2.out.kept hb3
    have HX3 := Lib.hid hx
    clear r0 r1 r3 r4 z0 z1 z2 f0 f1 f2 lt0
    have r0 := hx.a.c0; have r1 := hx.a.c1; have r3 := hx.b.c0; have r4 := hx.b.c1; have y0 := hx.z 0 _ rfl; have y1 := hx.z 1 _ rfl; have y2 := hx.z 2 _ rfl; have z0 := y0.1; have z1 := y1.1; have z2 := y2.1; have f0 := y0.2; have f1 := y1.2; have f2 := y2.2; have lt0 := hx.lt; clear y0 y1 y2
    clear hx hb1 hb2 hb3 HX HX1 HX2
    go_wp2_with fail
    have HLL : Hid (LoL w x y u v (.slice A1 n c1) n xs (.slice A2 m c2) m ys w3.heap.size _) := Lib.hid ⟨HX3.out.kept ((Below.refl _ _).alloc (Nat.le_refl _) _), two_letters w3, by simp⟩
    clear r0 r1 r3 r4 z0 z1 z2 f0 f1 f2 lt0
    clear HX3
    obtain ⟨g, hg⟩ : ∃ g, w3.heap.size = g := ⟨_, rfl⟩
    rw [hg] at HLL ⊢
    go_loopw [37] (fun i wr => ∃ k : Nat, k ≤ 2 ∧ i = .int .i64 (k : Int) ∧ (k ≠ 0 → rE = none) ∧ (k = 2 → rN = none) ∧ LoL w x y u v (.slice A1 n c1) n xs (.slice A2 m c2) m ys g wr) (fun i _ => 2 - (intOf i).toNat)
    case atStart => exact ⟨0, by omega, rfl, fun h => absurd rfl h, fun h => absurd h (by omega), HLL.out⟩
    case round =>
      obtain ⟨k, hk, rfl, hk1, hk2, hll⟩ := hrel
      clear HLL hg
      have hx := hll.1
      have L0 := hll.2.1 0 _ rfl
      have L1 := hll.2.1 1 _ rfl
      have l0 := L0.1
      have l1 := L1.1
      have HL := Lib.hid hll
      clear hll L0 L1
      have r0 := hx.a.c0; have r1 := hx.a.c1; have r3 := hx.b.c0; have r4 := hx.b.c1; have y0 := hx.z 0 _ rfl; have y1 := hx.z 1 _ rfl; have y2 := hx.z 2 _ rfl; have z0 := y0.1; have z1 := y1.1; have z2 := y2.1; have f0 := y0.2; have f1 := y1.2; have f2 := y2.2; have lt0 := hx.lt; clear y0 y1 y2
      clear hx
      have n0 : w.heap.size < wr.heap.size := by omega
      have n1 : w.heap.size + 1 < wr.heap.size := by omega
      have n2 := HL.out.2.2
      rcases (show k = 0 ∨ k = 1 ∨ k = 2 by omega) with rfl | rfl | rfl
      · clear hk hk1 hk2
        go_wp2_with fail
        have HL1 := Lib.hid (HL.out.kept ((Below.refl _ _).alloc (Nat.le_refl _) (.cells #[.int .i64 (x + 1), .int .i64 y] 39)))
        refine (hE.out _ HL1.out.1.ru HL1.out.1.ro).mono ?_
        rintro e w4 ⟨rfl, hb4⟩
        have HL2 := Lib.hid (HL1.out.kept hb4)
        clear HL HL1 n0 n1 n2
        clear r0 r1 r3 r4 z0 z1 z2 f0 f1 f2 lt0
        have hx := HL2.out.1
        have r0 := hx.a.c0; have r1 := hx.a.c1; have r3 := hx.b.c0; have r4 := hx.b.c1; have y0 := hx.z 0 _ rfl; have y1 := hx.z 1 _ rfl; have y2 := hx.z 2 _ rfl; have z0 := y0.1; have z1 := y1.1; have z2 := y2.1; have f0 := y0.2; have f1 := y1.2; have f2 := y2.2; have lt0 := hx.lt; clear y0 y1 y2
        clear hx
        have n0 : w.heap.size < w4.heap.size := by omega
        have n1 : w.heap.size + 1 < w4.heap.size := by omega
        have n3 : w.heap.size + 1 + 1 < w4.heap.size := by omega
        cases rE with
        | none =>
          rw [show loW (x + 1) y none = Value.agg #[.int .i64 0, .int .i64 0, .string ⟨#[]⟩] from rfl, show (none : Option (List UInt8)).isSome = false from rfl]
          go_wp2_with fail
          go_roundw
          case rel => exact ⟨1, by omega, by go_num, fun _ => by trivial, fun h => absurd h (by omega), HL2.out.kept ((Below.refl _ _).alloc (Nat.le_refl _) _)⟩
          case measure => first | (simp [intOf]; done) | (simp [intOf]; omega)
        | some p =>
          have hss : (txT p).size ≤ 60 := by rw [txT_size]; exact HLE.out p rfl
          have HV : Hid (Value.tuple #[loW x y r, .bool r.isSome] = .tuple #[.agg #[.int .i64 x, .int .i64 y, .string (⟨#[69]⟩ ++ txT p)], .bool true]) := Lib.hid (by
            rw [HR.out, show loJ (some p) rN = some (69 :: p) from rfl, show loW x y (some (69 :: p)) = Value.agg #[.int .i64 x, .int .i64 y, .string (txT (69 :: p))] from rfl, txT_cons]
            rfl)
          rw [show loW (x + 1) y (some p) = Value.agg #[.int .i64 (x + 1), .int .i64 y, .string (txT p)] from rfl, show (some p : Option (List UInt8)).isSome = true from rfl]
          generalize txT p = tp at *
          go_wp2_with fail
          obtain ⟨a0, a1, a2, hzb⟩ := HL2.out.1.done x y (⟨#[69]⟩ ++ tp) _ rfl
          simp only [RG.setN, Nat.zero_add] at a0 a1 a2 hzb
          refine bodyPost_ret (v := .tuple #[.agg #[.int .i64 x, .int .i64 y, .string (⟨#[69]⟩ ++ tp)], .bool true]) ?_ rfl ⟨by rw [HV.out], hzb.alloc (by simp <;> omega) _⟩
          simp [results, Try.f72, go_sem, a0, a1, a2, n3]
      · have HE1 := Lib.hid (hk1 (by omega))
        clear hk hk1 hk2
        go_wp2_with fail
        have HL1 := Lib.hid (HL.out.kept ((Below.refl _ _).alloc (Nat.le_refl _) (.cells #[.int .i64 x, .int .i64 (y + 1)] 39)))
        refine (hN.out _ HL1.out.1.ru HL1.out.1.ro).mono ?_
        rintro e w4 ⟨rfl, hb4⟩
        have HL2 := Lib.hid (HL1.out.kept hb4)
        clear HL HL1 n0 n1 n2
        clear r0 r1 r3 r4 z0 z1 z2 f0 f1 f2 lt0
        have hx := HL2.out.1
        have r0 := hx.a.c0; have r1 := hx.a.c1; have r3 := hx.b.c0; have r4 := hx.b.c1; have y0 := hx.z 0 _ rfl; have y1 := hx.z 1 _ rfl; have y2 := hx.z 2 _ rfl; have z0 := y0.1; have z1 := y1.1; have z2 := y2.1; have f0 := y0.2; have f1 := y1.2; have f2 := y2.2; have lt0 := hx.lt; clear y0 y1 y2
        clear hx
        have n0 : w.heap.size < w4.heap.size := by omega
        have n1 : w.heap.size + 1 < w4.heap.size := by omega
        have n3 : w.heap.size + 1 + 1 < w4.heap.size := by omega
        cases rN with
        | none =>
          rw [show loW x (y + 1) none = Value.agg #[.int .i64 0, .int .i64 0, .string ⟨#[]⟩] from rfl, show (none : Option (List UInt8)).isSome = false from rfl]
          go_wp2_with fail
          go_roundw
          case rel => exact ⟨2, by omega, by go_num, fun _ => HE1.out, fun _ => by trivial, HL2.out.kept ((Below.refl _ _).alloc (Nat.le_refl _) _)⟩
          case measure => first | (simp [intOf]; done) | (simp [intOf]; omega)
        | some p =>
          have hss : (txT p).size ≤ 60 := by rw [txT_size]; exact HLN.out p rfl
          have HV : Hid (Value.tuple #[loW x y r, .bool r.isSome] = .tuple #[.agg #[.int .i64 x, .int .i64 y, .string (⟨#[78]⟩ ++ txT p)], .bool true]) := Lib.hid (by
            rw [HR.out, HE1.out, show loJ none (some p) = some (78 :: p) from rfl, show loW x y (some (78 :: p)) = Value.agg #[.int .i64 x, .int .i64 y, .string (txT (78 :: p))] from rfl, txT_cons]
            rfl)
          rw [show loW x (y + 1) (some p) = Value.agg #[.int .i64 x, .int .i64 (y + 1), .string (txT p)] from rfl, show (some p : Option (List UInt8)).isSome = true from rfl]
          generalize txT p = tp at *
          go_wp2_with fail
          obtain ⟨a0, a1, a2, hzb⟩ := HL2.out.1.done x y (⟨#[78]⟩ ++ tp) _ rfl
          simp only [RG.setN, Nat.zero_add] at a0 a1 a2 hzb
          refine bodyPost_ret (v := .tuple #[.agg #[.int .i64 x, .int .i64 y, .string (⟨#[78]⟩ ++ tp)], .bool true]) ?_ rfl ⟨by rw [HV.out], hzb.alloc (by simp <;> omega) _⟩
          simp [results, Try.f72, go_sem, a0, a1, a2, n3]
      · have HE1 := Lib.hid (hk1 (by omega))
        have HE2 := Lib.hid (hk2 rfl)
        clear hk hk1 hk2
        go_wp2_with fail
        have HXX := Lib.hid HL.out.1
        obtain ⟨a0, a1, a2, hzb⟩ := HXX.out.done 0 0 ⟨#[]⟩ _ rfl
        simp only [RG.setN, Nat.zero_add] at a0 a1 a2 hzb
        rw [HR.out, HE1.out, HE2.out]
        refine bodyPost_ret (v := .tuple #[.agg #[.int .i64 0, .int .i64 0, .string ⟨#[]⟩], .bool false]) ?_ rfl ⟨rfl, hzb⟩
        simp [results, Try.f72, go_sem, a0, a1, a2]
/-- the first way that keeps off both lists -/
theorem ncLowest_any (U : Value) (n : Nat) (xs : List Int) (O : Value) (m : Nat) (ys : List Int) (hn : n ≤ 1048576) (hm : m ≤ 1048576) (u v : Int) (hu2 : 0 ≤ u ∧ u ≤ 20) (hv2 : 0 ≤ v ∧ v ≤ 20) : ∀ (f : Nat) (x y : Int) (w : World), RCels w U n xs → RCels w O m ys → (u - x) + (v - y) < f → (0 ≤ x ∧ x ≤ u + 1) → (0 ≤ y ∧ y ≤ v + 1) →
    Calls Try.prog 72 #[celV x y, celV u v, U, O] w (Ret w (.tuple #[loW x y (spF (fun a b => hasF n xs a b || hasF m ys a b) u v f x y).head?, .bool (spF (fun a b => hasF n xs a b || hasF m ys a b) u v f x y).head?.isSome])) := by
  intro f
  induction f with
  | zero =>
    intro x y w hu ho hf hx hy
    exact ncLowest_no U n xs O m ys hn hm x y u v w hu ho (by omega) (by omega) hu2 hv2 (by omega)
  | succ f ih =>
    intro x y w hu ho hf hx hy
    by_cases hno : u < x ∨ v < y ∨ (hasF n xs x y || hasF m ys x y) = true
    · rw [spF_no (tk := fun a b => hasF n xs a b || hasF m ys a b) hno]
      exact ncLowest_no U n xs O m ys hn hm x y u v w hu ho (by omega) (by omega) hu2 hv2 hno
    · have hb : hasF n xs x y = false ∧ hasF m ys x y = false := by
        have : ¬ (hasF n xs x y || hasF m ys x y) = true := fun h => hno (.inr (.inr h))
        simpa using this
      by_cases he : x = u ∧ y = v
      · obtain ⟨rfl, rfl⟩ := he
        rw [spF_end (tk := fun a b => hasF n xs a b || hasF m ys a b) (by rw [hb.1, hb.2]; rfl)]
        exact ncLowest_end U n xs O m ys hn hm x y w hu ho hu2 hv2 hb.1 hb.2
      · rw [spF_step (tk := fun a b => hasF n xs a b || hasF m ys a b) hno he, head_two]
        refine ncLowest_step U n xs O m ys hn hm x y u v w hu ho _ _ (by omega) (by omega) hu2 hv2 hb.1 hb.2 ?_ (Lib.hid fun w h1 h2 => ih (x + 1) y w h1 h2 (by omega) (by omega) (by omega)) (Lib.hid fun w h1 h2 => ih x (y + 1) w h1 h2 (by omega) (by omega) (by omega)) ?_ ?_ _ rfl
        · rcases Bool.eq_false_or_eq_true (x == u && y == v) with h | h
          · rw [Bool.and_eq_true, beq_iff_eq, beq_iff_eq] at h
            exact absurd h he
          · exact h
        · intro p hp
          have := spF_mem _ _ _ p (List.mem_of_head? hp)
          omega
        · intro p hp
          have := spF_mem _ _ _ p (List.mem_of_head? hp)
          omega
end Go.Proofs.Ytnlmjeakdjmohaa
