/- Pack 19 of what FnFansAndCubes needs: AllSz, FcW, RcIn. -/
import Derived.Test.YtmfcknlpbliehabKFnFansAndCubes18
import Derived.IntWalk
/- All trees of up to 7 nodes are few. -/
namespace Go.Proofs.Ytmfcknlpbliehab
open Go.RowKit
theorem allF_small : ∀ n, n < 8 → (allF n 1).flatten.length ≤ 1048576 := by decide +kernel
end Go.Proofs.Ytmfcknlpbliehab

/- Fans and cubes: what the law asks of their numbers, all of them by the kernel. -/
namespace Go.Proofs.Ytmfcknlpbliehab
set_option linter.unusedVariables false
/-- the first i starts, the first i ends -/
def stC (a : Nat) (i : Nat) : List Int := (List.range i).flatMap fun (j : Nat) => [(a : Int) - 1 - (j : Int), (j : Int)]
def enC (a b c : Nat) (i : Nat) : List Int := (List.range i).flatMap fun (j : Nat) => [(a : Int) - 1 - (j : Int) + (b : Int), (j : Int) + (c : Int)]
theorem stC_succ (a i : Nat) : stC a (i + 1) = stC a i ++ [(a : Int) - 1 - (i : Int), (i : Int)] := by simp [stC, List.range_succ]
theorem enC_succ (a b c i : Nat) : enC a b c (i + 1) = enC a b c i ++ [(a : Int) - 1 - (i : Int) + (b : Int), (i : Int) + (c : Int)] := by simp [enC, List.range_succ]
theorem stC_len (a i : Nat) : (stC a i).length = i * 2 := by
  induction i with
  | zero => rfl
  | succ i ih => rw [stC_succ, List.length_append, ih]; simp; omega
theorem enC_len (a b c i : Nat) : (enC a b c i).length = i * 2 := by
  induction i with
  | zero => rfl
  | succ i ih => rw [enC_succ, List.length_append, ih]; simp; omega
def fanT (n k : Nat) : Bool := (!(k == 0) || fanN n k == 1) && ((!decide (n ≤ 1) || fanN n k == 1) && ((!(k == 1 && decide (n ≤ 6)) || (allF (n + 1) 1).length == fanN n k) && ((!(k == 2 && decide (1 ≤ n) && decide (n ≤ 5)) || fanN n 1 * fanN (n + 2) 1 == fanN n k + fanN (n + 1) 1 * fanN (n + 1) 1) && decide (fanN n k ≤ 4000000000))))
set_option maxRecDepth 100000 in
theorem fan_all : ((List.range 9).all fun n => (List.range 5).all fun k => fanT n k) = true := by decide +kernel
def cubT (a b c : Nat) : Bool := cubeN b a c == cubeN a b c && (cubeN a c b == cubeN a b c && ((!(a == 0 || b == 0 || c == 0) || cubeN a b c == 1) && (a == 0 || (askC a (stC a a) a (enC a b c a) && cpV a (stC a a) a (enC a b c a) == ((cubeN a b c : Nat) : Int)))))
set_option maxRecDepth 100000 in
theorem cub_all : ((List.range 5).all fun a => (List.range 5).all fun b => (List.range 5).all fun c => cubT a b c) = true := by decide +kernel
end Go.Proofs.Ytmfcknlpbliehab

/- Cells that come in: a slice of cells that is only read. -/
namespace Go.Proofs.Ytmfcknlpbliehab
open Go.RowKit
set_option linter.unusedVariables false
theorem RCels.nil (w : World) (xs : List Int) : RCels w (.slice none 0 0) 0 xs :=
  ⟨⟨_, _, rfl⟩, fun A k c e => by injection e with e1 e2 e3; subst e2 e3; exact ⟨Nat.le_refl _, by simp [maxLen]⟩, fun h => absurd h (by simp)⟩
theorem RCels.of_cells (w : World) (a : Addr) (len cap : Nat) (hl : len ≤ cap) (hm : cap ≤ maxLen) (hc : ∀ j, j < len * 2 → ∃ z : Int, w.cell? (a.add j) = some (.int .i64 z)) : ∃ xs, RCels w (.slice (some a) len cap) len xs := by
  refine ⟨(List.range (len * 2)).map (fun j => intOf ((w.cell? (a.add j)).getD (.bool true))), ⟨⟨_, _, rfl⟩, fun A k c e => by injection e with e1 e2 e3; subst e2 e3; exact ⟨hl, hm⟩, fun hx => ?_⟩⟩
  obtain ⟨b, off, spot⟩ := a
  obtain ⟨z0, h0⟩ := hc 0 (by omega)
  have hspot : spot = none := by simpa [Addr.add] using World.cell?_spot h0
  subst hspot
  refine ⟨b, off, cap, rfl, World.block_lt_of_cell? w _ h0, fun j hj => ?_⟩
  obtain ⟨z, hz⟩ := hc j hj
  have e : (⟨b, off, none⟩ : Addr).add j = ⟨b, off + j, none⟩ := by unfold Addr.add; split <;> simp_all
  rw [List.getD_eq_getElem?_getD, List.getElem?_map, List.getElem?_range hj]
  rw [e] at hz
  simp [e, hz, intOf]
def szC (n : Nat) (left : Int) : Int := if left - (n : Int) < 0 then -1 else left - (n : Int)
end Go.Proofs.Ytmfcknlpbliehab
