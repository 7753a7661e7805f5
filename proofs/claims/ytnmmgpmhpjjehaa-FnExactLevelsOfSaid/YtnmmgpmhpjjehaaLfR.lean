/- Region 23 of the model's LevelsOf: two copies, two literals, two appends and a box, told by what has been done. -/
import Derived.Test.YtnmmgpmhpjjehaaLfS0
import Derived.Test.YtnmmgpmhpjjehaaAnyInv
import Derived.Test.YtnmmgpmhpjjehaaLvMark
import Derived.Maps.AppendAt
namespace Go.Proofs.Ytnmmgpmhpjjehaa
open Go.RowKit
set_option linter.unusedVariables false
/-- the rows that stand and are not yet appended to -/
def liv (L : Nat → Bool) : Nat → Bool
  | 2 => L 2 && !L 4
  | 3 => L 3 && !L 4
  | 4 => L 4
  | 7 => L 7 && !L 9
  | 8 => L 8 && !L 9
  | 9 => L 9
  | _ => false
def rowX (fs ds : List Int) : Nat → List Int
  | 2 => fs
  | 3 => [0]
  | 4 => fs ++ [0]
  | 7 => ds
  | 8 => [1]
  | 9 => ds ++ [1]
  | _ => []
def upv (u : Nat → Value) (i : Nat) (v : Value) : Nat → Value := fun j => if j = i then v else u j
theorem upv_same (u : Nat → Value) (i : Nat) (v : Value) : upv u i v i = v := by simp [upv]
theorem upv_other {u : Nat → Value} {i j : Nat} {v : Value} (h : j ≠ i) : upv u i v j = u j := by simp [upv, h]
theorem liv_in {L : Nat → Bool} {i : Nat} (h : liv L i = true) : i = 2 ∨ i = 3 ∨ i = 4 ∨ i = 7 ∨ i = 8 ∨ i = 9 := by
  unfold liv at h
  split at h <;> simp_all
theorem upd_false {L : Nat → Bool} {i j : Nat} (h : upd L i j = false) : L j = false := by
  unfold upd at h
  split at h
  · cases h
  · exact h
theorem liv_upd {L : Nat → Bool} {i j : Nat} (hj : j ≠ i) (h : liv (upd L i) j = true) : liv L j = true := by
  rcases liv_in h with rfl | rfl | rfl | rfl | rfl | rfl
  all_goals simp only [liv, Bool.and_eq_true, Bool.not_eq_true'] at h ⊢
  · exact ⟨by rw [upd_other hj] at h; exact h.1, upd_false h.2⟩
  · exact ⟨by rw [upd_other hj] at h; exact h.1, upd_false h.2⟩
  · rwa [upd_other hj] at h
  · exact ⟨by rw [upd_other hj] at h; exact h.1, upd_false h.2⟩
  · exact ⟨by rw [upd_other hj] at h; exact h.1, upd_false h.2⟩
  · rwa [upd_other hj] at h
structure R23 (w2 : World) (pa : Nat) (V U : Value) (fs ds : List Int) (L : Nat → Bool) (W : World) (u : Nat → Value) : Prop where
  below : Below w2.heap.size w2 W
  p0 : L 0 = true → u 0 = .pointer (some ⟨pa, 0, none⟩)
  p1 : L 1 = true → u 1 = V
  p5 : L 5 = true → u 5 = .pointer (some ⟨pa, 1, none⟩)
  p6 : L 6 = true → u 6 = U
  row : ∀ i, liv L i = true → IRow W w2.heap.size (u i) (rowX fs ds i)
  sep : ∀ i j, i ≠ j → liv L i = true → liv L j = true → ∀ q, (u i).ownBlock = some q → (u j).ownBlock ≠ some q
  f10 : L 10 = true → u 10 = .agg #[u 4, u 9] ∧ L 4 = true ∧ L 9 = true
  f12 : L 12 = true → L 10 = true ∧ L 11 = true
  f11 : L 11 = true → ∃ b, u 11 = .pointer (some ⟨b, 0, none⟩) ∧ w2.heap.size ≤ b ∧ b < W.heap.size ∧ (∀ i, liv L i = true → (u i).ownBlock ≠ some b) ∧
    (L 12 = false → W.heap[b]? = some (.cells #[.slice none 0 0, .slice none 0 0] 45 (0, 0))) ∧
    (L 12 = true → W.cell? ⟨b, 0, none⟩ = some (u 4) ∧ W.cell? ⟨b, 1, none⟩ = some (u 9))
namespace R23
variable {w2 W W' : World} {pa : Nat} {V U : Value} {fs ds : List Int} {L : Nat → Bool} {u : Nat → Value}
theorem kept (h : R23 w2 pa V U fs ds L W u) (hb : Below W.heap.size W W') : R23 w2 pa V U fs ds L W' u where
  below := h.below.trans (hb.mono h.below.size)
  p0 := h.p0
  p1 := h.p1
  p5 := h.p5
  p6 := h.p6
  row := fun i hi => (h.row i hi).below hb
  sep := h.sep
  f10 := h.f10
  f12 := h.f12
  f11 := fun e => by
    obtain ⟨b, h1, h2, h3, h4, h5, h6⟩ := h.f11 e
    exact ⟨b, h1, h2, Nat.lt_of_lt_of_le h3 hb.size, h4, fun e7 => (hb.block b h3).trans (h5 e7), fun e7 => ⟨(hb.cell (p := ⟨b, 0, none⟩) h3).trans (h6 e7).1, (hb.cell (p := ⟨b, 1, none⟩) h3).trans (h6 e7).2⟩⟩
theorem start : R23 w2 pa V U fs ds (fun _ => false) w2.drew u where
  below := (Below.refl _ _).drew
  p0 := fun e => by cases e
  p1 := fun e => by cases e
  p5 := fun e => by cases e
  p6 := fun e => by cases e
  row := fun i hi => by rcases liv_in hi with rfl | rfl | rfl | rfl | rfl | rfl <;> simp [liv] at hi
  sep := fun i j _ hi => by rcases liv_in hi with rfl | rfl | rfl | rfl | rfl | rfl <;> simp [liv] at hi
  f10 := fun e => by cases e
  f12 := fun e => by cases e
  f11 := fun e => by cases e
/-- a slot is set that holds no row -/
theorem slot (h : R23 w2 pa V U fs ds L W u) (i : Nat) (v : Value) (hi : (i = 0 ∧ v = .pointer (some ⟨pa, 0, none⟩)) ∨ (i = 1 ∧ v = V) ∨ (i = 5 ∧ v = .pointer (some ⟨pa, 1, none⟩)) ∨ (i = 6 ∧ v = U)) :
    R23 w2 pa V U fs ds (upd L i) W (upv u i v) := by
  have hn : ∀ j, liv (upd L i) j = true → j ≠ i := fun j hj e => by
    subst e
    rcases liv_in hj with e | e | e | e | e | e <;> omega
  have hi4 : i ≠ 4 := by omega
  have hi9 : i ≠ 9 := by omega
  have hi10 : i ≠ 10 := by omega
  have hi11 : i ≠ 11 := by omega
  have hi12 : i ≠ 12 := by omega
  exact {
    below := h.below
    p0 := fun e => by
      by_cases c : i = 0
      · subst c; rw [upv_same]; rcases hi with hi | hi | hi | hi <;> first | exact hi.2 | omega
      · rw [upv_other (Ne.symm c)]; exact h.p0 (by rwa [upd_other (Ne.symm c)] at e)
    p1 := fun e => by
      by_cases c : i = 1
      · subst c; rw [upv_same]; rcases hi with hi | hi | hi | hi <;> first | exact hi.2 | omega
      · rw [upv_other (Ne.symm c)]; exact h.p1 (by rwa [upd_other (Ne.symm c)] at e)
    p5 := fun e => by
      by_cases c : i = 5
      · subst c; rw [upv_same]; rcases hi with hi | hi | hi | hi <;> first | exact hi.2 | omega
      · rw [upv_other (Ne.symm c)]; exact h.p5 (by rwa [upd_other (Ne.symm c)] at e)
    p6 := fun e => by
      by_cases c : i = 6
      · subst c; rw [upv_same]; rcases hi with hi | hi | hi | hi <;> first | exact hi.2 | omega
      · rw [upv_other (Ne.symm c)]; exact h.p6 (by rwa [upd_other (Ne.symm c)] at e)
    row := fun j hj => by rw [upv_other (hn j hj)]; exact h.row j (liv_upd (hn j hj) hj)
    sep := fun j k hjk hj hk => by rw [upv_other (hn j hj), upv_other (hn k hk)]; exact h.sep j k hjk (liv_upd (hn j hj) hj) (liv_upd (hn k hk) hk)
    f10 := by rw [upd_other (Ne.symm hi10), upv_other (Ne.symm hi10), upv_other (Ne.symm hi4), upv_other (Ne.symm hi9), upd_other (Ne.symm hi4), upd_other (Ne.symm hi9)]; exact h.f10
    f12 := by rw [upd_other (Ne.symm hi10), upd_other (Ne.symm hi12), upd_other (Ne.symm hi11)]; exact h.f12
    f11 := by
      rw [upd_other (Ne.symm hi11), upv_other (Ne.symm hi11), upv_other (Ne.symm hi4), upv_other (Ne.symm hi9), upd_other (Ne.symm hi12)]
      intro e
      obtain ⟨b, h1, h2, h3, h4, h5⟩ := h.f11 e
      exact ⟨b, h1, h2, h3, fun j hj => by rw [upv_other (hn j hj)]; exact h4 j (liv_upd (hn j hj) hj), h5⟩ }
/-- a new row -/
theorem new (h : R23 w2 pa V U fs ds L W u) (i : Nat) (hi : i = 2 ∨ i = 3 ∨ i = 7 ∨ i = 8) (hb : Below W.heap.size W W') (v : Value) (hv : IRow W' W.heap.size v (rowX fs ds i)) :
    R23 w2 pa V U fs ds (upd L i) W' (upv u i v) := by
  have h' := h.kept hb
  have hi0 : i ≠ 0 := by omega
  have hi1 : i ≠ 1 := by omega
  have hi5 : i ≠ 5 := by omega
  have hi6 : i ≠ 6 := by omega
  have hi4 : i ≠ 4 := by omega
  have hi9 : i ≠ 9 := by omega
  have hi10 : i ≠ 10 := by omega
  have hi11 : i ≠ 11 := by omega
  have hi12 : i ≠ 12 := by omega
  exact {
    below := h'.below
    p0 := by rw [upd_other (Ne.symm hi0), upv_other (Ne.symm hi0)]; exact h.p0
    p1 := by rw [upd_other (Ne.symm hi1), upv_other (Ne.symm hi1)]; exact h.p1
    p5 := by rw [upd_other (Ne.symm hi5), upv_other (Ne.symm hi5)]; exact h.p5
    p6 := by rw [upd_other (Ne.symm hi6), upv_other (Ne.symm hi6)]; exact h.p6
    row := fun j hj => by
      by_cases e : j = i
      · subst e; rw [upv_same]; exact hv.mono h.below.size
      · rw [upv_other e]; exact h'.row j (liv_upd e hj)
    sep := fun j k hjk hj hk q hq e => by
      by_cases ej : j = i
      · subst ej
        rw [upv_same] at hq
        rw [upv_other (Ne.symm hjk)] at e
        have := (hv.blk q hq).1
        have := ((h.row k (liv_upd (Ne.symm hjk) hk)).blk q e).2
        omega
      · rw [upv_other ej] at hq
        by_cases ek : k = i
        · subst ek
          rw [upv_same] at e
          have := (hv.blk q e).1
          have := ((h.row j (liv_upd ej hj)).blk q hq).2
          omega
        · rw [upv_other ek] at e
          exact h.sep j k hjk (liv_upd ej hj) (liv_upd ek hk) q hq e
    f10 := by rw [upd_other (Ne.symm hi10), upv_other (Ne.symm hi10), upv_other (Ne.symm hi4), upv_other (Ne.symm hi9), upd_other (Ne.symm hi4), upd_other (Ne.symm hi9)]; exact h.f10
    f12 := by rw [upd_other (Ne.symm hi10), upd_other (Ne.symm hi12), upd_other (Ne.symm hi11)]; exact h.f12
    f11 := by
      rw [upd_other (Ne.symm hi11), upv_other (Ne.symm hi11), upv_other (Ne.symm hi4), upv_other (Ne.symm hi9), upd_other (Ne.symm hi12)]
      intro e
      obtain ⟨b, h1, h2, h3, h4, h5⟩ := h'.f11 e
      refine ⟨b, h1, h2, h3, fun j hj e3 => ?_, h5⟩
      by_cases ej : j = i
      · subst ej
        rw [upv_same] at e3
        obtain ⟨b', k1, _, k3, _⟩ := h.f11 e
        rw [h1] at k1
        injection k1 with k1
        injection k1 with k1
        injection k1 with k1
        subst k1
        have := (hv.blk b e3).1
        omega
      · rw [upv_other ej] at e3
        exact h4 j (liv_upd ej hj) e3 }
/-- an append -/
theorem app (h : R23 w2 pa V U fs ds L W u) (i s x : Nat) (hi : (i = 4 ∧ s = 2 ∧ x = 3) ∨ (i = 9 ∧ s = 7 ∧ x = 8)) (hLi : L i = false) (hLs : L s = true) (hLx : L x = true) (v : Value) (hg : W.grownBy W' (u s).ownBlock)
    (hv : IRow W' w2.heap.size v (rowX fs ds i)) (hat : v.ownBlock = (u s).ownBlock ∨ v.ownBlock = some W.heap.size) :
    R23 w2 pa V U fs ds (upd L i) W' (upv u i v) := by
  have hs : liv L s = true := by rcases hi with ⟨rfl, rfl, rfl⟩ | ⟨rfl, rfl, rfl⟩ <;> simp [liv, hLs, hLi]
  have hl : ∀ j, j ≠ i → liv (upd L i) j = true → liv L j = true ∧ s ≠ j := fun j hj h2 => ⟨liv_upd hj h2, fun e => by
    subst e
    rcases hi with ⟨rfl, rfl, rfl⟩ | ⟨rfl, rfl, rfl⟩ <;> simp [liv, upd] at h2⟩
  have hi0 : i ≠ 0 := by omega
  have hi1 : i ≠ 1 := by omega
  have hi5 : i ≠ 5 := by omega
  have hi6 : i ≠ 6 := by omega
  have hi10 : i ≠ 10 := by omega
  have hi11 : i ≠ 11 := by omega
  have hi12 : i ≠ 12 := by omega
  have n10 : L 10 = false := by
    cases e : L 10 with
    | false => rfl
    | true =>
      obtain ⟨_, e4, e9⟩ := h.f10 e
      rcases hi with ⟨rfl, rfl, rfl⟩ | ⟨rfl, rfl, rfl⟩
      · rw [hLi] at e4; cases e4
      · rw [hLi] at e9; cases e9
  have n12 : L 12 = false := by
    cases e : L 12 with
    | false => rfl
    | true => have := (h.f12 e).1; rw [n10] at this; cases this
  exact {
    below := h.below.grown hg h.below.size (fun q hq => ((h.row s hs).blk q hq).1)
    p0 := by rw [upd_other (Ne.symm hi0), upv_other (Ne.symm hi0)]; exact h.p0
    p1 := by rw [upd_other (Ne.symm hi1), upv_other (Ne.symm hi1)]; exact h.p1
    p5 := by rw [upd_other (Ne.symm hi5), upv_other (Ne.symm hi5)]; exact h.p5
    p6 := by rw [upd_other (Ne.symm hi6), upv_other (Ne.symm hi6)]; exact h.p6
    row := fun j hj => by
      by_cases e : j = i
      · subst e; rw [upv_same]; exact hv
      · rw [upv_other e]
        obtain ⟨l1, l2⟩ := hl j e hj
        exact irow_kept2 (h.row j l1) hg (fun q hq e2 => h.sep s j l2 hs l1 q hq e2)
    sep := fun j k hjk hj hk q hq e => by
      by_cases ej : j = i
      · subst ej
        rw [upv_same] at hq
        rw [upv_other (Ne.symm hjk)] at e
        obtain ⟨l1, l2⟩ := hl k (Ne.symm hjk) hk
        rcases hat with h2 | h2
        · rw [h2] at hq
          exact h.sep s k l2 hs l1 q hq e
        · rw [h2] at hq
          injection hq with hq
          have := ((h.row k l1).blk q e).2
          omega
      · rw [upv_other ej] at hq
        obtain ⟨l1, l2⟩ := hl j ej hj
        by_cases ek : k = i
        · subst ek
          rw [upv_same] at e
          rcases hat with h2 | h2
          · rw [h2] at e
            exact h.sep s j l2 hs l1 q e hq
          · rw [h2] at e
            injection e with e
            have := ((h.row j l1).blk q hq).2
            omega
        · rw [upv_other ek] at e
          exact h.sep j k hjk l1 (hl k ek hk).1 q hq e
    f10 := by rw [upd_other (Ne.symm hi10), n10]; intro e; cases e
    f12 := by rw [upd_other (Ne.symm hi12), n12]; intro e; cases e
    f11 := by
      rw [upd_other (Ne.symm hi11), upv_other (Ne.symm hi11), upd_other (Ne.symm hi12), n12]
      intro e
      obtain ⟨b, h1, h2, h3, h4, h5, _⟩ := h.f11 e
      refine ⟨b, h1, h2, Nat.lt_of_lt_of_le h3 hg.size, fun j hj e3 => ?_, fun _ => (hg.block b h3 (fun e3 => h4 s hs e3.symm)).trans (h5 n12), fun e => by cases e⟩
      by_cases ej : j = i
      · subst ej
        rw [upv_same] at e3
        rcases hat with h6 | h6
        · rw [h6] at e3
          exact h4 s hs e3
        · rw [h6] at e3
          injection e3 with e3
          omega
      · rw [upv_other ej] at e3
        exact h4 j (hl j ej hj).1 e3 }
theorem build (h : R23 w2 pa V U fs ds L W u) (h4 : L 4 = true) (h9 : L 9 = true) (hL : L 10 = false) : R23 w2 pa V U fs ds (upd L 10) W (upv u 10 (.agg #[u 4, u 9])) := by
  have hn : ∀ j, liv (upd L 10) j = true → j ≠ 10 := fun j hj e => by
    subst e
    rcases liv_in hj with e | e | e | e | e | e <;> omega
  exact {
    below := h.below
    p0 := by simpa [upd, upv] using h.p0
    p1 := by simpa [upd, upv] using h.p1
    p5 := by simpa [upd, upv] using h.p5
    p6 := by simpa [upd, upv] using h.p6
    row := fun j hj => by rw [upv_other (hn j hj)]; exact h.row j (liv_upd (hn j hj) hj)
    sep := fun j k hjk hj hk => by rw [upv_other (hn j hj), upv_other (hn k hk)]; exact h.sep j k hjk (liv_upd (hn j hj) hj) (liv_upd (hn k hk) hk)
    f10 := fun _ => ⟨rfl, by simp [upd, h4], by simp [upd, h9]⟩
    f12 := fun e => by
      have := h.f12 (by simpa [upd] using e)
      rw [hL] at this
      cases this.1
    f11 := fun e => by
      obtain ⟨b, h1, h2, h3, k4, h5⟩ := h.f11 (by simpa [upd] using e)
      exact ⟨b, h1, h2, h3, fun j hj => by rw [upv_other (hn j hj)]; exact k4 j (liv_upd (hn j hj) hj), by simpa [upd, upv] using h5⟩ }
theorem box (h : R23 w2 pa V U fs ds L W u) (hL : L 11 = false) : R23 w2 pa V U fs ds (upd L 11) (W.alloc (.cells #[.slice none 0 0, .slice none 0 0] 45)) (upv u 11 (.pointer (some ⟨W.heap.size, 0, none⟩))) := by
  have hn : ∀ j, liv (upd L 11) j = true → j ≠ 11 := fun j hj e => by
    subst e
    rcases liv_in hj with e | e | e | e | e | e <;> omega
  have h' := h.kept ((Below.refl W.heap.size W).alloc (Nat.le_refl _) (.cells #[.slice none 0 0, .slice none 0 0] 45))
  have n12 : L 12 = false := by
    cases e : L 12 with
    | false => rfl
    | true => have := (h.f12 e).2; rw [hL] at this; cases this
  exact {
    below := h'.below
    p0 := by simpa [upd, upv] using h.p0
    p1 := by simpa [upd, upv] using h.p1
    p5 := by simpa [upd, upv] using h.p5
    p6 := by simpa [upd, upv] using h.p6
    row := fun j hj => by rw [upv_other (hn j hj)]; exact h'.row j (liv_upd (hn j hj) hj)
    sep := fun j k hjk hj hk => by rw [upv_other (hn j hj), upv_other (hn k hk)]; exact h.sep j k hjk (liv_upd (hn j hj) hj) (liv_upd (hn k hk) hk)
    f10 := by simpa [upd, upv] using h.f10
    f12 := fun e => by rw [upd_other (by omega), n12] at e; cases e
    f11 := fun _ => by
      refine ⟨W.heap.size, rfl, h.below.size, by simp, fun j hj e => ?_, fun _ => heap_alloc_new W _, fun e => by rw [upd_other (by omega), n12] at e; cases e⟩
      rw [upv_other (hn j hj)] at e
      have := ((h.row j (liv_upd (hn j hj) hj)).blk _ e).2
      omega }
theorem box_cells2 {W : World} {b : Nat} {x y : Value} {T : TypeId} (h : W.heap[b]? = some (.cells #[x, y] T (0, 0))) : W.cell? ⟨b, 0, none⟩ = some x ∧ W.cell? ⟨b, 1, none⟩ = some y ∧ W.frozen? ⟨b, 0, none⟩ = false ∧ W.frozen? ⟨b, 1, none⟩ = false := by
  refine ⟨by simp [World.cell?, h], by simp [World.cell?, h], by simp [World.frozen?, h], by simp [World.frozen?, h]⟩
theorem set2_grown2 {W : World} {b : Nat} (x y : Value) : W.grownBy ((W.setCell ⟨b, 0, none⟩ x).setCell ⟨b, 1, none⟩ y) (some b) :=
  ⟨rfl, rfl, rfl, by simp [World.setCell], fun i hi hne => by
    have h1 := Below.heap_setCell (W.setCell ⟨b, 0, none⟩ x) ⟨b, 1, none⟩ y i (by show i ≠ b; exact fun e => hne (by rw [e]))
    have h2 := Below.heap_setCell W ⟨b, 0, none⟩ x i (by show i ≠ b; exact fun e => hne (by rw [e]))
    exact h1.trans h2⟩
theorem store (h : R23 w2 pa V U fs ds L W u) {b : Nat} (hu : u 11 = .pointer (some ⟨b, 0, none⟩)) (h10 : L 10 = true) (h11 : L 11 = true) (hL : L 12 = false) :
    R23 w2 pa V U fs ds (upd L 12) ((W.setCell ⟨b, 0, none⟩ (u 4)).setCell ⟨b, 1, none⟩ (u 9)) u := by
  obtain ⟨b', k1, k2, k3, k4, k5, _⟩ := h.f11 h11
  rw [hu] at k1
  injection k1 with k1
  injection k1 with k1
  injection k1 with k1
  subst k1
  obtain ⟨c0, c1, _, _⟩ := box_cells2 (k5 hL)
  have hg := set2_grown2 (W := W) (b := b) (u 4) (u 9)
  have hsz : ((W.setCell ⟨b, 0, none⟩ (u 4)).setCell ⟨b, 1, none⟩ (u 9)).heap.size = W.heap.size := by simp [World.setCell]
  have hn : ∀ j, liv (upd L 12) j = true → j ≠ 12 := fun j hj e => by
    subst e
    rcases liv_in hj with e | e | e | e | e | e <;> omega
  exact {
    below := (h.below.setCell (p := ⟨b, 0, none⟩) k2 _).setCell (p := ⟨b, 1, none⟩) k2 _
    p0 := by simpa [upd] using h.p0
    p1 := by simpa [upd] using h.p1
    p5 := by simpa [upd] using h.p5
    p6 := by simpa [upd] using h.p6
    row := fun j hj => irow_kept2 (h.row j (liv_upd (hn j hj) hj)) hg (fun q hq e => k4 j (liv_upd (hn j hj) hj) (by injection hq with hq; rw [hq]; exact e))
    sep := fun j k hjk hj hk => h.sep j k hjk (liv_upd (hn j hj) hj) (liv_upd (hn k hk) hk)
    f10 := by simpa [upd] using h.f10
    f12 := fun _ => ⟨by simp [upd, h10], by simp [upd, h11]⟩
    f11 := fun _ => ⟨b, hu, k2, by rw [hsz]; exact k3, fun j hj => k4 j (liv_upd (hn j hj) hj), fun e => by simp [upd] at e, fun _ =>
      ⟨(World.cell?_setCell_other _ _ _ _ (by simp)).trans (World.cell?_setCell_same' _ _ _ (by rw [c0]; rfl)), World.cell?_setCell_same' _ _ _ (by rw [World.cell?_setCell_other _ _ _ _ (by simp), c1]; rfl)⟩⟩ }
end R23
set_option maxRecDepth 100000 in
/-- append of a literal of one number -/
theorem run_pushB (W : World) (B : Nat) (ty : TypeId) (v x : Value) (xs : List Int) (y : Int) (hown : IRow W B v xs) (hx : IRow W B x [y]) (hlen : xs.length ≤ 1048576) (hB : B ≤ W.heap.size) :
    ∃ v' w', (Builtin.append_ #[40, 40] ty #[v, x]).run Try.prog W = .ok v' w' ∧ IRow w' B v' (xs ++ [y]) ∧ W.grownBy w' v.ownBlock ∧ (v'.ownBlock = v.ownBlock ∨ v'.ownBlock = some W.heap.size) := by
  obtain ⟨i0, hi, hz0, hz1, hz2⟩ := info_parts intInfo
  obtain ⟨g, c, rfl, _, _⟩ := hx.form' (n := 1) rfl (by omega)
  have hc := hx.cell (j := 0) (by simp)
  obtain ⟨v', w', hr, h2, h3, h4, h5⟩ := run_append_own_at (P := Try.prog) W B 40 ty 3 i0 (.int .i64 0) 1 8 Try.underlying40 hi hz0 hz1 hz2 rfl (by decide) v xs.length (xs.map (Value.int .i64)) hown
    ⟨g, 0, none⟩ 1 c [.int .i64 y] (by simp) (by
      intro j z hj
      match j, hj with
      | 0, hj =>
        injection hj with hj
        subst hj
        exact hc
      | j + 1, hj => cases hj) (by
      intro z hz
      rw [List.mem_singleton] at hz
      subst hz
      rfl) (by unfold maxLen; omega) (by omega) hB
  refine ⟨v', w', hr, ?_, h3, h5⟩
  unfold IRow
  rw [List.length_append, List.map_append]
  exact h2
theorem lit_row (W : World) (x : Int) : IRow (W.alloc (.cells #[.int .i64 x] 3)) W.heap.size (.slice (some ⟨W.heap.size, 0, none⟩) 1 1) [x] :=
  IRow.of_own (World.ownsRow_lit (base := W.heap.size) W #[.int .i64 x] 1 (Nat.le_refl _) (by simp [maxLen]) rfl) rfl rfl
theorem op_pushB {o : Oper} {a : Act} {K : Act → World → Prop} {Q : Exit → Act → World → Prop} {W : World} (s x : Operand)
    (ho : o.op = .call { callee := .builtin .append, args := #[s, x], argTypes := #[40, 40] }) (B : Nat) (v xv : Value) (xs : List Int) (y : Int) (hs : a.eval s = v) (hx : a.eval x = xv)
    (hown : IRow W B v xs) (hrow : IRow W B xv [y]) (hlen : xs.length ≤ 1048576) (hB : B ≤ W.heap.size)
    (h : ∀ v' w', IRow w' B v' (xs ++ [y]) → W.grownBy w' v.ownBlock → (v'.ownBlock = v.ownBlock ∨ v'.ownBlock = some W.heap.size) → K (a.put o.dst v') w') : Oper.wp Try.prog o a W K Q := by
  obtain ⟨v', w', hr, h1, h2, h3⟩ := run_pushB W B o.type v xv xs y hown hrow hlen hB
  unfold Oper.wp execOp
  simp only [ho, resolve, invoke, builtin, Sem.run_bind, Sem.run_pure, Result.andThen_ok, List.map_toArray, List.map_cons, List.map_nil, hs, hx, hr]
  exact h v' w' h1 h2 h3
end Go.Proofs.Ytnmmgpmhpjjehaa
