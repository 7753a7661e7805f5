/- Pack 25 of what FnExactVotesOfTable needs: TPut, VoS3. -/
import Derived.Test.YtmfcknlpbliehaaDoorKFnExactVotesOfTable24
/- A row of a slice of slices gets one more number, and is laid back. -/
namespace Go.Proofs.YtmfcknlpbliehaaDoor
open Go.RowKit
set_option linter.unusedVariables false
theorem getD_set {α : Type} (l : List α) (j i : Nat) (u d : α) (hj : j < l.length) : (l.set j u).getD i d = if i = j then u else l.getD i d := by
  rw [List.getD_eq_getElem?_getD, List.getElem?_set]
  by_cases e : j = i
  · subst e; rw [if_pos rfl, if_pos hj, if_pos rfl]; rfl
  · rw [if_neg e, if_neg (fun x => e x.symm), ← List.getD_eq_getElem?_getD]
theorem TRow.put {w w1 : World} {B M g n c : Nat} {vs : List Value} {xss : List (List Int)} (h : TRow w B M (.slice (some ⟨g, 0, none⟩) n c) vs xss) {j : Nat} (hj : j < xss.length) {u : Value} {ys : List Int}
    (hg : w.grownBy w1 (vs.getD j NilS).ownBlock) (hu : IRow w1 B u ys) (hat : u.ownBlock = (vs.getD j NilS).ownBlock ∨ ∃ q, u.ownBlock = some q ∧ w.heap.size ≤ q) :
    TRow (w1.setCell ⟨g, j, none⟩ u) B (w1.setCell ⟨g, j, none⟩ u).heap.size (.slice (some ⟨g, 0, none⟩) n c) (vs.set j u) (xss.set j ys) := by
  have hl := h.len
  have hs := hg.size
  have hgB := h.outB g rfl
  have hng : ∀ a, u.ownBlock = some a → a ≠ g := fun a ha e => by
    rcases hat with e2 | ⟨q, e2, hq⟩
    · rw [e2] at ha; exact h.off j hj g a rfl ha e.symm
    · rw [e2] at ha; injection ha with ha; have := h.size; omega
  have hsz : (w1.setCell ⟨g, j, none⟩ u).heap.size = w1.heap.size := by simp [World.setCell]
  have hgr : w1.grownBy (w1.setCell ⟨g, j, none⟩ u) (some g) := by
    refine ⟨rfl, rfl, rfl, by rw [hsz]; exact Nat.le_refl _, fun i hi hne => ?_⟩
    unfold World.setCell
    simp only [Array.getElem?_modify]
    rw [if_neg (fun e => hne (by rw [e]))]
  have hout1 : VRow w1 B (.slice (some ⟨g, 0, none⟩) n c) vs := h.out.apart hg (fun k hk e => h.off j hj k k hk e.symm rfl)
  have hn : n = vs.length := by
    obtain ⟨A, c2, e⟩ := hout1.shape
    injection e
  have hout2 : VRow (w1.setCell ⟨g, j, none⟩ u) B (.slice (some ⟨g, 0, none⟩) n c) (vs.set j u) := (hout1.set j u).1
  have hold : ∀ i, i < xss.length → i ≠ j → IRow (w1.setCell ⟨g, j, none⟩ u) B (vs.getD i NilS) (xss.getD i []) := fun i hi hne =>
    World.ownsRow.kept (World.ownsRow.kept (h.row i hi) hg (by
      cases e : (vs.getD i NilS).ownBlock with
      | none => exact .inl rfl
      | some k => exact .inr (fun e2 => h.apart i j hi hj hne k k e e2.symm rfl))) hgr (by
      cases e : (vs.getD i NilS).ownBlock with
      | none => exact .inl rfl
      | some k => exact .inr (fun e2 => h.off i hi g k rfl e (by injection e2 with e2; exact e2.symm)))
  have hnew : IRow (w1.setCell ⟨g, j, none⟩ u) B u ys := World.ownsRow.kept hu hgr (by
    cases e : u.ownBlock with
    | none => exact .inl rfl
    | some k => exact .inr (fun e2 => hng k e (by injection e2)))
  have gv : ∀ i, (vs.set j u).getD i NilS = if i = j then u else vs.getD i NilS := fun i => getD_set vs j i u NilS (by omega)
  have gx : ∀ i, (xss.set j ys).getD i [] = if i = j then ys else xss.getD i [] := fun i => getD_set xss j i ys [] hj
  refine ⟨by rw [List.length_set, List.length_set]; exact hl, hout2, fun k hk => ?_, fun i hi => ?_, fun i hi k hk => ?_, fun i i' hi hi' hne a b ha hb => ?_, fun i hi a b ha hb => ?_, Nat.le_refl _⟩
  · rw [hsz]; have := h.outM k hk; have := h.size; omega
  · rw [List.length_set] at hi
    rw [gv, gx]
    by_cases e : i = j
    · rw [if_pos e, if_pos e]; exact hnew
    · rw [if_neg e, if_neg e]; exact hold i hi e
  · rw [List.length_set] at hi
    rw [gv] at hk
    by_cases e : i = j
    · rw [if_pos e] at hk; exact (hnew.blk k hk).2
    · rw [if_neg e] at hk; exact ((hold i hi e).blk k hk).2
  · rw [List.length_set] at hi hi'
    rw [gv] at ha hb
    by_cases e1 : i = j <;> by_cases e2 : i' = j
    · omega
    · rw [if_pos e1] at ha; rw [if_neg e2] at hb
      rcases hat with e3 | ⟨q, e3, hq⟩
      · rw [e3] at ha; exact h.apart j i' hj hi' (fun e => e2 e.symm) a b ha hb
      · rw [e3] at ha; injection ha with ha; have := h.rowM i' hi' b hb; have := h.size; omega
    · rw [if_neg e1] at ha; rw [if_pos e2] at hb
      rcases hat with e3 | ⟨q, e3, hq⟩
      · rw [e3] at hb; exact h.apart i j hi hj e1 a b ha hb
      · rw [e3] at hb; injection hb with hb; have := h.rowM i hi a ha; have := h.size; omega
    · rw [if_neg e1] at ha; rw [if_neg e2] at hb
      exact h.apart i i' hi hi' hne a b ha hb
  · rw [List.length_set] at hi
    rw [gv] at hb
    injection ha with ha
    by_cases e : i = j
    · rw [if_pos e] at hb; exact fun x => hng b hb (by rw [← x, ← ha])
    · rw [if_neg e] at hb; rw [← ha]; exact h.off i hi g b rfl hb
theorem TRow.after {w w1 : World} {B M g n c : Nat} {vs : List Value} {xss : List (List Int)} (h : TRow w B M (.slice (some ⟨g, 0, none⟩) n c) vs xss) {j : Nat} (hj : j < xss.length)
    (hg : w.grownBy w1 (vs.getD j NilS).ownBlock) : w1.cell? ⟨g, j, none⟩ = some (vs.getD j NilS) ∧ w1.frozen? ⟨g, j, none⟩ = false := by
  have hout1 : VRow w1 B (.slice (some ⟨g, 0, none⟩) n c) vs := h.out.apart hg (fun k hk e => h.off j hj k k hk e.symm rfl)
  exact ⟨hout1.cell (by rw [h.len]; exact hj), hout1.free j⟩
/-- four rows, all nil, just made -/
theorem TRow.made {w : World} {B g : Nat} (h : w.ownsRow B 33 1 (.slice (some ⟨g, 0, none⟩) 4 4) 4 (List.replicate 4 (.slice none 0 0))) :
    TRow w B w.heap.size (.slice (some ⟨g, 0, none⟩) 4 4) (List.replicate 4 NilS) (List.replicate 4 []) := by
  have gv : ∀ j, (List.replicate 4 NilS).getD j NilS = NilS := fun j => by
    rw [List.getD_eq_getElem?_getD, List.getElem?_replicate]; split <;> rfl
  have gx : ∀ j, (List.replicate 4 ([] : List Int)).getD j [] = [] := fun j => by
    rw [List.getD_eq_getElem?_getD, List.getElem?_replicate]; split <;> rfl
  have hv : VRow w B (.slice (some ⟨g, 0, none⟩) 4 4) (List.replicate 4 NilS) := h
  refine ⟨rfl, hv, fun k hk => (hv.blk k hk).2, fun j hj => ?_, fun j hj k hk => ?_, fun i j hi hj hne a b ha hb => ?_, fun j hj a b ha hb => ?_, Nat.le_refl _⟩
  · rw [gv, gx]; exact IRow.nil _ _
  · rw [gv] at hk; cases hk
  · rw [gv] at ha; cases ha
  · rw [gv] at hb; cases hb
theorem TRow.grownBelow {w w1 : World} {B M g n c : Nat} {vs : List Value} {xss : List (List Int)} (h : TRow w B M (.slice (some ⟨g, 0, none⟩) n c) vs xss) {j : Nat} (hj : j < xss.length) {w0 : World} (hb : Below B w0 w)
    (hg : w.grownBy w1 (vs.getD j NilS).ownBlock) (u : Value) : Below B w0 (w1.setCell ⟨g, j, none⟩ u) :=
  (hb.grown hg (Nat.le_trans (h.outB g rfl).1 (Nat.le_of_lt (Nat.lt_of_lt_of_le (h.outB g rfl).2 h.size))) (fun q hq => (h.rowB hj q hq).1)).setCell (p := ⟨g, j, none⟩) (h.outB g rfl).1 _
end Go.Proofs.YtmfcknlpbliehaaDoor

/- The model: CountsOfVotes, WinnersOf, LeadersAlong, IsOrdered, FirstOvertaken. -/
namespace Go.Proofs.YtmfcknlpbliehaaDoor
open Go.RowKit
set_option linter.unusedVariables false
def cntV9 (s : ByteArray) : List Int := if votB s = true then vcL s s.size else []
theorem cntV9_len (s : ByteArray) : (cntV9 s).length ≤ 4 := by unfold cntV9; split <;> simp [vcL]
def winV9 (s : ByteArray) : ByteArray := if votB s = true then wiV (vcL s s.size) else ⟨#[]⟩
def leaV9 (s : ByteArray) : List ByteArray := if votB s = true then leL s s.size else []
theorem leaV9_len (s : ByteArray) : (leaV9 s).length ≤ 16 := by
  unfold leaV9
  split
  · rename_i h
    rw [leL_len]
    exact ((votB_iff s).1 h).1
  · simp
def foV (s : ByteArray) : Int := if votB s = true then ((foTo s s.size : Nat) : Int) else 0
def foOk (s : ByteArray) : Bool := votB s && decide (0 < foTo s s.size)
end Go.Proofs.YtmfcknlpbliehaaDoor
