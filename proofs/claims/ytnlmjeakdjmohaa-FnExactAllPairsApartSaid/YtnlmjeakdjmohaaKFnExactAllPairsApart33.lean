/- Pack 33 of what FnExactAllPairsApart needs: PaMath2, PaW. -/
import Derived.Test.YtnlmjeakdjmohaaKFnExactAllPairsApart32
/- Lists of two ways that are apart: one more way at a time. -/
namespace Go.Proofs.Ytnlmjeakdjmohaa
open Go.RowKit
set_option linter.unusedVariables false
theorem paR_meet {B : List Wy} {v : Wy} {j : Nat} (hj : j < B.length) (h : mtB v (wg B j) = true) : paR (B.take (j + 1)) v = paR (B.take j) v := by
  have e : wg B j = B[j] := by unfold wg; rw [List.getD_eq_getElem?_getD, List.getElem?_eq_getElem hj]; rfl
  rw [e] at h
  unfold paR paF
  rw [List.take_add_one, List.getElem?_eq_getElem hj, List.filter_append]
  simp [h]
theorem paR_apart {B : List Wy} {v : Wy} {j : Nat} (hj : j < B.length) (h : mtB v (wg B j) = false) : paR (B.take (j + 1)) v = paR (B.take j) v ++ [[v, wg B j]] := by
  have e : wg B j = B[j] := by unfold wg; rw [List.getD_eq_getElem?_getD, List.getElem?_eq_getElem hj]; rfl
  rw [e] at h ⊢
  unfold paR paF
  rw [List.take_add_one, List.getElem?_eq_getElem hj, List.filter_append]
  simp [h]
theorem paR_le (B : List Wy) (v : Wy) (j : Nat) : (paR (B.take j) v).length ≤ (paR B v).length := by
  unfold paR paF
  rw [List.length_map, List.length_map]
  exact (List.Sublist.filter _ (List.take_sublist j B)).length_le
theorem paL_part {A B : List Wy} {k : Nat} (hk : k < A.length) (j : Nat) : (paL (A.take k) B ++ paR (B.take j) (wg A k)).length ≤ (paL A B).length := by
  have h1 := paR_le B (wg A k) j
  have h2 := paL_mono A B (A.length - (k + 1)) (k + 1)
  rw [show k + 1 + (A.length - (k + 1)) = A.length by omega, List.take_length, paL_take A B hk, List.length_append] at h2
  rw [List.length_append]
  omega
theorem paR_zero (B : List Wy) (v : Wy) : paR (B.take 0) v = [] := by rw [List.take_zero]; rfl
theorem paL_zero (A B : List Wy) : paL (A.take 0) B = [] := by rw [List.take_zero]; rfl
theorem aw_way {x y u v : Int} (h1 : cellB x y = true) (h2 : cellB u v = true) {k : Nat} (hk : k < (awL x y u v).length) : wayB (wg (awL x y u v) k).1 (wg (awL x y u v) k).2.1 (wg (awL x y u v) k).2.2 = true := by
  have e : wg (awL x y u v) k = (awL x y u v)[k] := by unfold wg; rw [List.getD_eq_getElem?_getD, List.getElem?_eq_getElem hk]; rfl
  have hm : wg (awL x y u v) k ∈ awL x y u v := by rw [e]; exact List.getElem_mem hk
  clear e
  generalize wg (awL x y u v) k = W at hm ⊢
  unfold awL txM at hm
  rw [List.map_map, List.mem_map] at hm
  obtain ⟨p, hp, hw⟩ := hm
  rw [← hw]
  rw [← spF_tx] at hp
  exact spF_way hp h1 h2
theorem aw_size {x y : Int} {s : ByteArray} (h : wayB x y s = true) : s.size ≤ 24 := (wayB_of h).2.1
end Go.Proofs.Ytnlmjeakdjmohaa

/- Lists of lists of ways while they are made: one more list of two appended. -/
namespace Go.Proofs.Ytnlmjeakdjmohaa
open Go.RowKit
set_option linter.unusedVariables false
/-- the list so far, made behind the world w2 -/
structure PaO (w2 : World) (o : Value) (P : List (List Wy)) (X : World) : Prop where
  ex : ∃ M vs, URow X w2.heap.size M o vs P ∧ w2.heap.size ≤ M
  bl : Below w2.heap.size w2 X
theorem PaO.below {w2 X X' : World} {o : Value} {P : List (List Wy)} (h : PaO w2 o P X) (hb : Below X.heap.size X X') : PaO w2 o P X' := by
  obtain ⟨M, vs, h1, h2⟩ := h.ex
  exact ⟨⟨M, vs, h1.below hb, h2⟩, h.bl.trans (hb.mono h.bl.size)⟩
theorem PaO.blk {w2 X : World} {o : Value} {P : List (List Wy)} (h : PaO w2 o P X) : ∀ q, o.ownBlock = some q → w2.heap.size ≤ q ∧ q < X.heap.size := by
  obtain ⟨M, vs, h1, h2⟩ := h.ex
  exact fun q hq => ⟨(h1.outB q hq).1, Nat.lt_of_lt_of_le (h1.outB q hq).2 h1.size⟩
theorem PaO.shape {w2 X : World} {o : Value} {P : List (List Wy)} (h : PaO w2 o P X) : ∃ A c, o = .slice A P.length c := by
  obtain ⟨M, vs, h1, h2⟩ := h.ex
  have := h1.out.shape
  rwa [h1.len] at this
theorem PaO.start (w2 : World) : PaO w2 (.slice none 0 0) [] w2 := ⟨⟨w2.heap.size, [], URow.nil (Nat.le_refl _), Nat.le_refl _⟩, Below.refl _ _⟩
theorem pair_row (X : World) (x y : Int) (s : ByteArray) (u v : Int) (t : ByteArray) :
    WRow (X.alloc (.cells #[.int .i64 x, .int .i64 y, .string s, .int .i64 u, .int .i64 v, .string t] 56)) X.heap.size (.slice (some ⟨X.heap.size, 0, none⟩) 2 2) [(x, y, s), (u, v, t)] :=
  World.ownsRow_lit (base := X.heap.size) X #[.int .i64 x, .int .i64 y, .string s, .int .i64 u, .int .i64 v, .string t] 2 (Nat.le_refl _) (by simp [maxLen]) rfl
theorem pa_push {w2 X w3 : World} {o v3 : Value} {P : List (List Wy)} {M : Nat} {vs : List Value} {x y u v : Int} {s t : ByteArray} {ob : Obj} (h : URow X w2.heap.size M o vs P) (hM : w2.heap.size ≤ M) (hb : Below w2.heap.size w2 X)
    (hr : XRow w3 w2.heap.size v3 (vs ++ [.slice (some ⟨X.heap.size, 0, none⟩) 2 2]))
    (hg : ((X.alloc (.cells #[.int .i64 x, .int .i64 y, .string s, .int .i64 u, .int .i64 v, .string t] 56)).alloc ob).grownBy w3 o.ownBlock)
    (hat : v3.ownBlock = o.ownBlock ∨ ∃ g, v3.ownBlock = some g ∧ ((X.alloc (.cells #[.int .i64 x, .int .i64 y, .string s, .int .i64 u, .int .i64 v, .string t] 56)).alloc ob).heap.size ≤ g) :
    PaO w2 v3 (P ++ [[(x, y, s), (u, v, t)]]) w3 ∧ X.grownBy w3 o.ownBlock ∧ ∀ q, v3.ownBlock = some q → o.ownBlock = some q ∨ X.heap.size ≤ q := by
  have hg1 := grown_alloc_left hg
  have hal : Below X.heap.size X (X.alloc (.cells #[.int .i64 x, .int .i64 y, .string s, .int .i64 u, .int .i64 v, .string t] 56)) := (Below.refl _ _).alloc (Nat.le_refl _) _
  have h1 := h.below hal
  have hsz : (X.alloc (.cells #[.int .i64 x, .int .i64 y, .string s, .int .i64 u, .int .i64 v, .string t] 56)).heap.size = X.heap.size + 1 := by simp
  have hu := (pair_row X x y s u v t).mono h.size
  have hat1 : v3.ownBlock = o.ownBlock ∨ ∃ g, v3.ownBlock = some g ∧ (X.alloc (.cells #[.int .i64 x, .int .i64 y, .string s, .int .i64 u, .int .i64 v, .string t] 56)).heap.size ≤ g := by
    rcases hat with e | ⟨g, e, hge⟩
    · exact .inl e
    · exact .inr ⟨g, e, by simp at hge ⊢; omega⟩
  have hp := h1.push hu hM hr hg1 hat1
  have hgX := grown_alloc_left hg1
  refine ⟨⟨⟨w3.heap.size, _, hp, Nat.le_trans hb.size hgX.size⟩, hb.grown hgX hb.size (fun q hq => (h.outB q hq).1)⟩, hgX, fun q hq => ?_⟩
  rcases hat1 with e | ⟨g, e, hge⟩
  · exact .inl (by rw [← e]; exact hq)
  · rw [e] at hq
    injection hq with hq
    exact .inr (by rw [hsz] at hge; omega)
/-- the list so far and a way in a box that is none of its blocks -/
structure PaJ (w2 : World) (o : Value) (P : List (List Wy)) (b : Nat) (x y : Int) (s : ByteArray) (X : World) : Prop where
  l : PaO w2 o P X
  v : WB b x y s X
  ne : ∀ q, o.ownBlock = some q → q ≠ b
theorem PaJ.below {w2 X X' : World} {o : Value} {P : List (List Wy)} {b : Nat} {x y : Int} {s : ByteArray} (h : PaJ w2 o P b x y s X) (hb : Below X.heap.size X X') : PaJ w2 o P b x y s X' := ⟨h.l.below hb, h.v.below hb, h.ne⟩
theorem WB.grown {b : Nat} {x y : Int} {s : ByteArray} {X X' : World} {r : Option Nat} (h : WB b x y s X) (hg : X.grownBy X' r) (hne : ∀ q, r = some q → q ≠ b) : WB b x y s X' := by
  have h1 : some b ≠ r := fun e => hne b e.symm rfl
  exact ⟨hg.cell h.c0 h1, hg.cell h.c1 h1, hg.cell h.c2 h1, Nat.lt_of_lt_of_le h.lt hg.size⟩
theorem PaJ.push {w2 X w3 : World} {o v3 : Value} {P : List (List Wy)} {M : Nat} {vs : List Value} {b : Nat} {a0 a1 : Int} {sa : ByteArray} {x y u v : Int} {s t : ByteArray} {ob : Obj} (h : PaJ w2 o P b a0 a1 sa X) (hu : URow X w2.heap.size M o vs P) (hM : w2.heap.size ≤ M)
    (hr : XRow w3 w2.heap.size v3 (vs ++ [.slice (some ⟨X.heap.size, 0, none⟩) 2 2]))
    (hg : ((X.alloc (.cells #[.int .i64 x, .int .i64 y, .string s, .int .i64 u, .int .i64 v, .string t] 56)).alloc ob).grownBy w3 o.ownBlock)
    (hat : v3.ownBlock = o.ownBlock ∨ ∃ g, v3.ownBlock = some g ∧ ((X.alloc (.cells #[.int .i64 x, .int .i64 y, .string s, .int .i64 u, .int .i64 v, .string t] 56)).alloc ob).heap.size ≤ g) :
    PaJ w2 v3 (P ++ [[(x, y, s), (u, v, t)]]) b a0 a1 sa w3 := by
  obtain ⟨h1, h2, h3⟩ := pa_push hu hM h.l.bl hr hg hat
  refine ⟨h1, h.v.grown h2 h.ne, fun q hq e => ?_⟩
  rcases h3 q hq with h4 | h4
  · exact h.ne q h4 e
  · have := h.v.lt
    omega
end Go.Proofs.Ytnlmjeakdjmohaa
