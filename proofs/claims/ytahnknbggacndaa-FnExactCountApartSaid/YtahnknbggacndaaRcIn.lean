/- Cells that come in: a slice of cells that is only read. -/
import Derived.Test.YtahnknbggacndaaGdS
import Derived.IntWalk
namespace Go.Proofs.Ytahnknbggacndaa
open Go.RowKit
set_option linter.unusedVariables false
theorem RCels.nil (w : World) (xs : List Int) : RCels w (.slice none 0 0) 0 xs :=
  ⟨⟨_, _, rfl⟩, fun A k c e => by injection e with e1 e2 e3; subst e2 e3; exact ⟨Nat.le_refl _, by simp [maxLen]⟩, fun h => absurd h (by simp)⟩
theorem RCels.of_cells (w : World) (a : Addr) (len cap : Nat) (hl : len ≤ cap) (hm : cap ≤ maxLen) (hc : ∀ j, j < len * 2 → ∃ z : Int, w.cell? (a.add j) = some (.int .i64 z)) : ∃ xs, RCels w (.slice (some a) len cap) len xs := by
  refine ⟨(List.range (len * 2)).map (fun j => intOf ((w.cell? (a.add j)).getD (.bool true))), ⟨⟨_, _, rfl⟩, fun A k c e => by injection e with e1 e2 e3; subst e2 e3; exact ⟨hl, hm⟩, fun hx => ?_⟩⟩
  obtain ⟨b, off, spot⟩ := a
  obtain ⟨z0, h0⟩ := hc 0 (by omega)
  have hspot : spot = none := by simpa [Addr.add] using World.cell?_spot h0
  subst hspot
  refine ⟨b, off, cap, rfl, World.block_lt_of_cell? w _ h0, fun j hj => ?_⟩
  obtain ⟨z, hz⟩ := hc j hj
  have e : (⟨b, off, none⟩ : Addr).add j = ⟨b, off + j, none⟩ := by unfold Addr.add; split <;> simp_all
  rw [List.getD_eq_getElem?_getD, List.getElem?_map, List.getElem?_range hj]
  rw [e] at hz
  simp [e, hz, intOf]
def szC (n : Nat) (left : Int) : Int := if left - (n : Int) < 0 then -1 else left - (n : Int)
set_option maxHeartbeats 800000 in
theorem szCellS_any (v : Value) (n : Nat) (xs : List Int) (left : Int) (w : World) (h : RCels w v n xs) (hl : 0 ≤ left ∧ left ≤ 1048576) : Calls Try.prog 53 #[v, .int .i64 left] w fun e w' => e = .returned (.int .i64 (szC n left)) ∧ w = w' := by
  obtain ⟨A, c, rfl⟩ := h.shape
  obtain ⟨m1, m2⟩ := h.room _ _ _ rfl
  have m3 : maxLen ≤ 9223372036854775807 := by simp [maxLen]
  have h1 : 0 ≤ (n : Int) := by omega
  have h2 : (n : Int) ≤ 9223372036854775807 := by omega
  clear h m1 m2 m3
  unfold szC
  by_cases hlt : left - (n : Int) < 0
  · rw [if_pos hlt]
    go_enter Try.func53, Try.ntmps53
    go_wp2
    go_ret
    exact ⟨rfl, rfl⟩
  · rw [if_neg hlt]
    go_enter Try.func53, Try.ntmps53
    go_wp2
    go_ret
    exact ⟨rfl, rfl⟩
end Go.Proofs.Ytahnknbggacndaa
