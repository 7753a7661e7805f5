/- fit of the program; what stands in the middle of LevelsOf. -/
import Derived.Test.YtnmmgpmhpjjehaaMomI
import Derived.Test.YtnmmgpmhpjjehaaLfS0
namespace Go.Proofs.Ytnmmgpmhpjjehaa
open Go.RowKit
set_option linter.unusedVariables false
/-- the result's box at a, the levels' box at b, their rows behind a -/
structure ImAt (w : World) (a b : Nat) (fs ds : List Int) (v u : Value) (W : World) : Prop where
  c0 : W.cell? ⟨b, 0, none⟩ = some v
  c1 : W.cell? ⟨b, 1, none⟩ = some u
  r0 : W.cell? ⟨a, 0, none⟩ = some (.slice none 0 0)
  r1 : W.cell? ⟨a, 1, none⟩ = some (.slice none 0 0)
  g0 : W.frozen? ⟨a, 0, none⟩ = false
  g1 : W.frozen? ⟨a, 1, none⟩ = false
  rF : IRow W (a + 1) v fs
  rD : IRow W (a + 1) u ds
  ne : ∀ q, v.ownBlock = some q → u.ownBlock ≠ some q
  nF : ∀ q, v.ownBlock = some q → q ≠ b
  nD : ∀ q, u.ownBlock = some q → q ≠ b
  hb : a + 1 ≤ b ∧ b < W.heap.size
  below : Below a w W
namespace ImAt
variable {w W W' : World} {a b : Nat} {fs ds : List Int} {v u : Value}
theorem kept (h : ImAt w a b fs ds v u W) (hb : Below W.heap.size W W') : ImAt w a b fs ds v u W' := by
  have s := h.hb
  exact ⟨(hb.cell (p := ⟨b, 0, none⟩) (by show b < _; omega)).trans h.c0, (hb.cell (p := ⟨b, 1, none⟩) (by show b < _; omega)).trans h.c1,
    (hb.cell (p := ⟨a, 0, none⟩) (by show a < _; omega)).trans h.r0, (hb.cell (p := ⟨a, 1, none⟩) (by show a < _; omega)).trans h.r1,
    (hb.frozen (p := ⟨a, 0, none⟩) (by show a < _; omega)).trans h.g0, (hb.frozen (p := ⟨a, 1, none⟩) (by show a < _; omega)).trans h.g1,
    h.rF.below hb, h.rD.below hb, h.ne, h.nF, h.nD, ⟨s.1, by have := hb.size; omega⟩, h.below.trans (hb.mono (by omega))⟩
theorem drew (h : ImAt w a b fs ds v u W) : ImAt w a b fs ds v u W.drew := h.kept (Below.refl _ _).drew
theorem others {r : Nat} (h : ImAt w a b fs ds v u W) (hg : W.grownBy W' (some r)) (hr : a + 1 ≤ r) (hrb : r ≠ b) :
    W'.cell? ⟨b, 0, none⟩ = some v ∧ W'.cell? ⟨b, 1, none⟩ = some u ∧ W'.cell? ⟨a, 0, none⟩ = some (.slice none 0 0) ∧ W'.cell? ⟨a, 1, none⟩ = some (.slice none 0 0) ∧ W'.frozen? ⟨a, 0, none⟩ = false ∧ W'.frozen? ⟨a, 1, none⟩ = false ∧ b < W'.heap.size ∧ Below a w W' := by
  have s := h.hb
  have nb : some b ≠ some r := fun e => by injection e with e; exact hrb e.symm
  have na : some a ≠ some r := fun e => by injection e with e; omega
  exact ⟨(cell_grownI hg s.2 nb 0).trans h.c0, (cell_grownI hg s.2 nb 1).trans h.c1, (cell_grownI hg (by omega) na 0).trans h.r0, (cell_grownI hg (by omega) na 1).trans h.r1,
    (frozen_grownI hg (by omega) na 0).trans h.g0, (frozen_grownI hg (by omega) na 1).trans h.g1, Nat.lt_of_lt_of_le s.2 hg.size, h.below.grown hg (by omega) (fun q hq => by injection hq with hq; omega)⟩
theorem setF {g c : Nat} (h : ImAt w a b fs ds (.slice (some ⟨g, 0, none⟩) fs.length c) u W) (j : Nat) (x : Int) : ImAt w a b (fs.set j x) ds (.slice (some ⟨g, 0, none⟩) fs.length c) u (W.setCell ⟨g, j, none⟩ (.int .i64 x)) := by
  obtain ⟨hr, hg⟩ := h.rF.set j x
  obtain ⟨c0, c1, r0, r1, g0, g1, s, bl⟩ := h.others (r := g) hg (h.rF.blk g rfl).1 (h.nF g rfl)
  exact ⟨c0, c1, r0, r1, g0, g1, hr, irow_kept2 h.rD hg (fun q hq => h.ne q hq), h.ne, h.nF, h.nD, ⟨h.hb.1, s⟩, bl⟩
theorem setD {g c : Nat} (h : ImAt w a b fs ds v (.slice (some ⟨g, 0, none⟩) ds.length c) W) (j : Nat) (x : Int) : ImAt w a b fs (ds.set j x) v (.slice (some ⟨g, 0, none⟩) ds.length c) (W.setCell ⟨g, j, none⟩ (.int .i64 x)) := by
  obtain ⟨hr, hg⟩ := h.rD.set j x
  obtain ⟨c0, c1, r0, r1, g0, g1, s, bl⟩ := h.others (r := g) hg (h.rD.blk g rfl).1 (h.nD g rfl)
  exact ⟨c0, c1, r0, r1, g0, g1, irow_kept2 h.rF hg (fun q hq e => h.ne q e hq), hr, h.ne, h.nF, h.nD, ⟨h.hb.1, s⟩, bl⟩
end ImAt
/-- the state while one weight, at the place p, is looked for -/
structure FitSt (P : Int → World → Prop) (gp jp : Nat) (v u : Value) (N : Nat) (lo : Int) (mv : Int → Int) : Prop where
  cell : ∀ x W, P x W → W.cell? ⟨gp, jp, none⟩ = some (.int .i64 x) ∧ W.frozen? ⟨gp, jp, none⟩ = false
  set : ∀ x y W, P x W → P y (W.setCell ⟨gp, jp, none⟩ (.int .i64 y))
  kept : ∀ x W W', P x W → Below W.heap.size W W' → P x W'
  mom : ∀ x W, lo ≤ x → x ≤ 5 → P x W → Calls Try.prog 112 #[.agg #[v, u], .int .i64 (N : Int)] W (Ret W (.int .i64 (mv x)))
/-- an answer of fit -/
def FitRet (P : Int → World → Prop) (p : Nat → Bool) (r : Nat) (lo : Int) (e : Ending) (W' : World) : Prop := ∃ (y : Int) (ok : Bool), e = .returned (.bool ok) ∧ P y W' ∧ LfFound p r lo y ok
def fitP (mv : Int → Int) (lo m : Int) (k : Nat) : Bool := mv (lo + (k : Int)) == m
set_option maxRecDepth 100000 in
set_option maxHeartbeats 2000000 in
theorem fit_any {P : Int → World → Prop} {gp jp : Nat} {v u : Value} {N : Nat} {lo : Int} {mv : Int → Int} (S : FitSt P gp jp v u N lo mv) (m x0 : Int) (r : Nat) (hr : lo + (r : Int) = 6) (hlo : -5 ≤ lo) (W : World) (h0 : P x0 W) :
    Calls Try.prog 97 #[.agg #[v, u], .pointer (some ⟨gp, jp, none⟩), .int .i64 lo, .int .i64 (N : Int), .int .i64 m] W (FitRet P (fitP mv lo m) r lo) := by
  obtain ⟨w1, hw1⟩ : ∃ w1, w1 = W.alloc (.cells #[v, u] 45) := ⟨_, rfl⟩
  have hb1 : Below W.heap.size W w1 := by rw [hw1]; exact (Below.refl _ _).alloc (Nat.le_refl _) _
  have c0 : w1.cell? ⟨W.heap.size, 0, none⟩ = some v := by rw [hw1]; simp [go_sem]
  have c1 : w1.cell? ⟨W.heap.size, 1, none⟩ = some u := by rw [hw1]; simp [go_sem]
  have hgp : gp < W.heap.size := World.block_lt_of_cell? W _ (S.cell x0 W h0).1
  have HP1 := Lib.hid (S.kept x0 W w1 h0 hb1)
  have HS := Lib.hid S
  have hs1 : W.heap.size < w1.heap.size := by rw [hw1]; simp
  have HW := Lib.hid hw1
  have HR := Lib.hid hr
  clear hw1 hb1 h0 S hr
  have hr5 : lo + (r : Int) ≤ 6 ∧ 6 ≤ lo + (r : Int) := by have := HR.out; omega
  go_enter Try.func97, Try.ntmps97
  go_wp2_with fail
  rw [← HW.out]
  go_loopw [11] (fun x wq => ∃ (k : Nat) (y : Int), k ≤ r ∧ x = .int .i64 (lo + (k : Int)) ∧ P y wq ∧ wq.cell? ⟨W.heap.size, 0, none⟩ = some v ∧ wq.cell? ⟨W.heap.size, 1, none⟩ = some u ∧ W.heap.size < wq.heap.size ∧ LfTry (fitP mv lo m) r k lo y false) (fun x _ => (6 - intOf x).toNat)
  case atStart => exact ⟨0, x0, Nat.zero_le _, by go_num, HP1.out, c0, c1, hs1, .inr ⟨rfl, rfl⟩⟩
  case round =>
    obtain ⟨k, y, hk, rfl, hP, d0, d1, hs2, htry⟩ := hrel
    clear HP1 c0 c1
    by_cases hlt : k < r
    · have hv5 : lo + (k : Int) ≤ 5 := by omega
      obtain ⟨e1, e2⟩ := HS.out.cell y wr hP
      have HP2 := Lib.hid (HS.out.set y (lo + (k : Int)) wr hP)
      have HMO := Lib.hid (HS.out.mom (lo + (k : Int)) _ (by omega) hv5 HP2.out)
      have HN := Lib.hid (htry.next hlt)
      have hne : ∀ o, (⟨gp, jp, none⟩ : Addr) ≠ ⟨W.heap.size, o, none⟩ := fun o e => by injection e with e; omega
      have k0 : (wr.setCell ⟨gp, jp, none⟩ (.int .i64 (lo + (k : Int)))).cell? ⟨W.heap.size, 0, none⟩ = some v := (World.cell?_setCell_other _ _ _ _ (hne 0)).trans d0
      have k1 : (wr.setCell ⟨gp, jp, none⟩ (.int .i64 (lo + (k : Int)))).cell? ⟨W.heap.size, 1, none⟩ = some u := (World.cell?_setCell_other _ _ _ _ (hne 1)).trans d1
      have hsz : (wr.setCell ⟨gp, jp, none⟩ (.int .i64 (lo + (k : Int)))).heap.size = wr.heap.size := by simp [World.setCell]
      have HQ : Hid (fitP mv lo m k = (mv (lo + (k : Int)) == m)) := Lib.hid rfl
      clear htry hP hne
      rw [HQ.out] at HN
      generalize mv (lo + (k : Int)) = z at *
      by_cases hz : z = m
      · have hz2 : (z == m) = true := by rw [hz]; simp
        have HF : Hid (LfFound (fitP mv lo m) r lo (lo + (k : Int)) true) := Lib.hid (by
          have := HN.out
          rw [hz2] at this
          exact this.yes)
        clear hz
        go_wp2_with (go_at_call 112; refine HMO.out.mono ?_; rintro e w3 ⟨rfl, hb3⟩)
        go_ret
        exact ⟨lo + (k : Int), true, rfl, HS.out.kept _ _ _ HP2.out hb3, HF.out⟩
      · have hz2 : (z == m) = false := beq_eq_false_iff_ne.2 hz
        rw [hz2] at HN
        clear hz
        go_wp2_with (go_at_call 112; refine HMO.out.mono ?_; rintro e w3 ⟨rfl, hb3⟩)
        have HP3 := Lib.hid (HS.out.kept _ _ _ HP2.out hb3)
        have j0 := Lib.hid ((hb3.cell (p := ⟨W.heap.size, 0, none⟩) (by show W.heap.size < _; omega)).trans k0)
        have j1 := Lib.hid ((hb3.cell (p := ⟨W.heap.size, 1, none⟩) (by show W.heap.size < _; omega)).trans k1)
        have hs3 := hb3.size
        clear hb3 k0 k1 d0 d1 e1 e2
        go_roundw
        case rel => exact ⟨k + 1, lo + (k : Int), by omega, by go_num, HP3.out, j0.out, j1.out, by omega, HN.out⟩
        case measure => simp [intOf]; omega
    · have hv5 : ¬ lo + (k : Int) ≤ 5 := by omega
      have HF := Lib.hid (htry.no (by omega))
      have HP2 := Lib.hid hP
      clear htry hP d0 d1
      go_wp2
      go_ret
      exact ⟨y, false, rfl, HP2.out, HF.out⟩
end Go.Proofs.Ytnmmgpmhpjjehaa
