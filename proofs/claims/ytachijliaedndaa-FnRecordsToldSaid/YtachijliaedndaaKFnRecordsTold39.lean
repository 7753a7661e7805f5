/- Pack 39 of what FnRecordsTold needs: RrI, Tab. -/
import Derived.Test.YtachijliaedndaaKFnRecordsTold38
/- CountByRecords: the program. -/
namespace Go.Proofs.Ytachijliaedndaa
open Go.RowKit
set_option linter.unusedVariables false
theorem byRecordsI_ret (n : Int) (w : World) : Calls Try.prog 62 #[.int .i64 n] w (IntsRet w (prB n) (prL rrF n)) := by
  have HP := Lib.hid (isPairs_any n)
  have HC := Lib.hid (countByHighest_ret n)
  rcases Bool.eq_false_or_eq_true (prB n) with h | h
  · obtain ⟨m, rfl, hm⟩ := prB_of h
    have e1 : chOk (m : Int) = true := by unfold chOk inB; simp; omega
    have e2 : chV (m : Int) = fr (rrF m) (m + 1) := by rw [chV, if_pos e1, show ((m : Int) + 1).toNat = m + 1 by omega]; rfl
    rw [prL_yes _ h, h]
    rw [h] at HP
    rw [e1, e2] at HC
    go_enter Try.func62, Try.ntmps62
    go_wp2_with (first | (go_at_call 192; refine (HP.out _).mono ?_; rintro e w1 ⟨rfl, hb1⟩) | (go_at_call 70; refine (HC.out _).mono ?_; rintro e w2 ⟨v, rfl, hr, hb2⟩))
    go_ret2
    exact ⟨_, rfl, hr.mono hb1.size, hb1.trans (hb2.mono hb1.size)⟩
  · rw [prL_no _ h, h]
    rw [h] at HP
    go_enter Try.func62, Try.ntmps62
    go_wp2_with (go_at_call 192; refine (HP.out _).mono ?_; rintro e w1 ⟨rfl, hb1⟩)
    go_ret2
    exact ⟨_, rfl, IRow.nil _ _, hb1⟩
end Go.Proofs.Ytachijliaedndaa

/- A table: a slice of slices of ints that the call owns, all rows of one length. -/
namespace Go.Proofs.Ytachijliaedndaa
open Go.RowKit
theorem rowInfo : (Try.prog.info? 30).map (fun i => (i.zero, i.size, i.bytes)) = some (some (.slice none 0 0), 1, 24) := by kernel_rfl
/-- block g holds n slices; the first r of them are rows of m numbers, in blocks of their own -/
structure Tab (w : World) (B g n m : Nat) (blk : Nat → Nat) (r : Nat) (f : Nat → Nat → Int) : Prop where
  outB : B ≤ g
  outL : g < w.heap.size
  made : ∀ j, j < r → w.cell? ⟨g, j, none⟩ = some (.slice (some ⟨blk j, 0, none⟩) m m)
  yet : ∀ j, r ≤ j → j < n → w.cell? ⟨g, j, none⟩ = some (.slice none 0 0)
  outF : ∀ j, w.frozen? ⟨g, j, none⟩ = false
  blkB : ∀ j, j < r → B ≤ blk j ∧ blk j < w.heap.size ∧ blk j ≠ g
  apart : ∀ i j, i < r → j < r → blk i = blk j → i = j
  cell : ∀ j c, j < r → c < m → w.cell? ⟨blk j, c, none⟩ = some (.int .i64 (f j c))
  free : ∀ j c, j < r → w.frozen? ⟨blk j, c, none⟩ = false
namespace Tab
variable {w w' : World} {B g n m r : Nat} {blk : Nat → Nat} {f f' : Nat → Nat → Int}
theorem congr (h : Tab w B g n m blk r f) (e : ∀ j c, j < r → c < m → f j c = f' j c) : Tab w B g n m blk r f' :=
  { h with cell := fun j c hj hc => by rw [← e j c hj hc]; exact h.cell j c hj hc }
theorem below (h : Tab w B g n m blk r f) (hb : Below w.heap.size w w') : Tab w' B g n m blk r f where
  outB := h.outB
  outL := Nat.lt_of_lt_of_le h.outL hb.size
  made j hj := (hb.cell (p := ⟨g, j, none⟩) h.outL).trans (h.made j hj)
  yet j hj hn := (hb.cell (p := ⟨g, j, none⟩) h.outL).trans (h.yet j hj hn)
  outF j := (hb.frozen (p := ⟨g, j, none⟩) h.outL).trans (h.outF j)
  blkB j hj := ⟨(h.blkB j hj).1, Nat.lt_of_lt_of_le (h.blkB j hj).2.1 hb.size, (h.blkB j hj).2.2⟩
  apart := h.apart
  cell j c hj hc := (hb.cell (p := ⟨blk j, c, none⟩) (h.blkB j hj).2.1).trans (h.cell j c hj hc)
  free j c hj := (hb.frozen (p := ⟨blk j, c, none⟩) (h.blkB j hj).2.1).trans (h.free j c hj)
theorem drewN (h : Tab w B g n m blk r f) (k : Nat) : Tab (w.drewN k) B g n m blk r f := ⟨h.outB, h.outL, h.made, h.yet, h.outF, h.blkB, h.apart, h.cell, h.free⟩
theorem drew (h : Tab w B g n m blk r f) : Tab w.drew B g n m blk r f := ⟨h.outB, h.outL, h.made, h.yet, h.outF, h.blkB, h.apart, h.cell, h.free⟩
/-- one number stored -/
theorem set (h : Tab w B g n m blk r f) (j c : Nat) (u : Int) (hj : j < r) (hc : c < m) :
    Tab (w.setCell ⟨blk j, c, none⟩ (.int .i64 u)) B g n m blk r (fun j' c' => if j' = j ∧ c' = c then u else f j' c') where
  outB := h.outB
  outL := by simpa [World.setCell] using h.outL
  made j' hj' := by
    rw [World.cell?_setCell_other w ⟨blk j, c, none⟩ ⟨g, j', none⟩ _ (fun e => (h.blkB j hj).2.2 (by injection e))]
    exact h.made j' hj'
  yet j' hj' hn := by
    rw [World.cell?_setCell_other w ⟨blk j, c, none⟩ ⟨g, j', none⟩ _ (fun e => (h.blkB j hj).2.2 (by injection e))]
    exact h.yet j' hj' hn
  outF j' := by rw [World.frozen?_setCell]; exact h.outF j'
  blkB j' hj' := ⟨(h.blkB j' hj').1, by simpa [World.setCell] using (h.blkB j' hj').2.1, (h.blkB j' hj').2.2⟩
  apart := h.apart
  cell j' c' hj' hc' := by
    by_cases e : j' = j ∧ c' = c
    · obtain ⟨rfl, rfl⟩ := e
      rw [if_pos ⟨rfl, rfl⟩]
      exact World.cell?_setCell_same w ⟨blk j', c', none⟩ _ (h.cell j' c' hj' hc')
    · rw [if_neg e]
      rw [World.cell?_setCell_other w ⟨blk j, c, none⟩ ⟨blk j', c', none⟩ _ (fun e2 => e (by
        injection e2 with e3 e4
        exact ⟨(h.apart j j' hj hj' e3).symm, e4.symm⟩))]
      exact h.cell j' c' hj' hc'
  free j' c' hj' := by rw [World.frozen?_setCell]; exact h.free j' c' hj'
/-- one row more: a new block of m numbers 0, stored as row r -/
theorem push {w1 : World} (h : Tab w B g n m blk r f) (hr : r < n) (hB : B ≤ w.heap.size) (hb : Below w.heap.size w w1) (hrow : IRow w1 w.heap.size (.slice (some ⟨w.heap.size, 0, none⟩) m m) (List.replicate m 0)) :
    Tab (w1.setCell ⟨g, r, none⟩ (.slice (some ⟨w.heap.size, 0, none⟩) m m)) B g n m (fun j => if j = r then w.heap.size else blk j) (r + 1) (fun j c => if j = r then 0 else f j c) := by
  have h1 := h.below hb
  have hlt := hrow.lt
  have hg := h.outL
  refine ⟨h.outB, by simpa [World.setCell] using h1.outL, fun j hj => ?_, fun j hj hn => ?_, fun j => ?_, fun j hj => ?_, fun i j hi hj e => ?_, fun j c hj hc => ?_, fun j c hj => ?_⟩
  · by_cases e : j = r
    · subst e
      rw [World.cell?_setCell_same w1 ⟨g, j, none⟩ _ (h1.yet j (Nat.le_refl _) hr), if_pos rfl]
    · rw [World.cell?_setCell_other w1 ⟨g, r, none⟩ ⟨g, j, none⟩ _ (fun e2 => e (by injection e2 with _ e4; exact e4.symm)), if_neg e]
      exact h1.made j (by omega)
  · rw [World.cell?_setCell_other w1 ⟨g, r, none⟩ ⟨g, j, none⟩ _ (fun e2 => by injection e2 with _ e4; omega)]
    exact h1.yet j (by omega) hn
  · rw [World.frozen?_setCell]; exact h1.outF j
  · by_cases e : j = r
    · rw [if_pos e]
      exact ⟨hB, by simpa [World.setCell] using hlt.2, by omega⟩
    · rw [if_neg e]
      have := h1.blkB j (by omega)
      exact ⟨this.1, by simpa [World.setCell] using this.2.1, this.2.2⟩
  · by_cases e1 : i = r
    · by_cases e2 : j = r
      · omega
      · rw [if_pos e1, if_neg e2] at e
        have := (h.blkB j (by omega)).2.1
        omega
    · by_cases e2 : j = r
      · rw [if_neg e1, if_pos e2] at e
        have := (h.blkB i (by omega)).2.1
        omega
      · rw [if_neg e1, if_neg e2] at e
        exact h.apart i j (by omega) (by omega) e
  · by_cases e : j = r
    · rw [if_pos e, if_pos e]
      rw [World.cell?_setCell_other w1 ⟨g, r, none⟩ ⟨w.heap.size, c, none⟩ _ (fun e2 => by injection e2 with e3 _; omega)]
      have := hrow.cell (j := c) (by simpa using hc)
      rw [this]
      simp [hc]
    · rw [if_neg e, if_neg e]
      have hb2 := (h.blkB j (by omega)).2.2
      rw [World.cell?_setCell_other w1 ⟨g, r, none⟩ ⟨blk j, c, none⟩ _ (fun e2 => hb2 (by injection e2 with e3 _; exact e3.symm))]
      exact h1.cell j c (by omega) hc
  · rw [World.frozen?_setCell]
    by_cases e : j = r
    · rw [if_pos e]; exact hrow.free c
    · rw [if_neg e]; exact h1.free j c (by omega)
end Tab
/-- a new slice of n slices, none of them made yet -/
theorem Tab.start {w : World} {B g n m : Nat} (hB : B ≤ g) (h : w.ownsRow B 30 1 (.slice (some ⟨g, 0, none⟩) n n) n (List.replicate n (.slice none 0 0))) : Tab w B g n m (fun _ => 0) 0 (fun _ _ => 0) := by
  have hl := World.ownsRow.lt h g rfl
  refine ⟨hB, hl.2, fun j hj => absurd hj (by omega), fun j _ hj => ?_, fun j => World.ownsRow.frozenAt h j, fun j hj => absurd hj (by omega), fun i j hi => absurd hi (by omega), fun j c hj => absurd hj (by omega), fun j c hj => absurd hj (by omega)⟩
  rw [World.ownsRow.cellAt h j (by simpa using hj)]
  simp [hj]
end Go.Proofs.Ytachijliaedndaa
