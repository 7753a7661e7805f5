/- Pack 8 of what FnExactRankOrdered needs: LeastMost, RuS. -/
import Derived.Test.YtmfcknlpbliehaaDoorKFnExactRankOrdered7
import Derived.RegionTactic
import Derived.Deep.RegionHeld3
import Derived.Deep.QuietTactic
import Derived.BigQuiet
import Derived.IntWalk
import Derived.ChangeAlike
/- l1Least, l1Most. -/
namespace Go.Proofs.YtmfcknlpbliehaaDoor
open Go.RowKit
theorem least_any (a b : Int) (w : World) : Calls Tryd.prog 30 #[.int .i64 a, .int .i64 b] w fun e w' => e = .returned (.int .i64 (if b < a then b else a)) ∧ w = w' := by
  by_cases h : a < b
  · rw [if_neg (by omega)]
    go_enter Tryd.func30, Tryd.ntmps30
    go_wp2
    go_ret
    exact ⟨rfl, rfl⟩
  · have e : (if b < a then b else a) = b := by split <;> omega
    rw [e]
    clear e
    go_enter Tryd.func30, Tryd.ntmps30
    go_wp2
    go_ret
    exact ⟨rfl, rfl⟩
end Go.Proofs.YtmfcknlpbliehaaDoor

/- The model's ruRatio (any numerator), ruIs, ruPower, ruAsked, ruWin. -/
namespace Go.Proofs.YtmfcknlpbliehaaDoor
open Go.RowKit
set_option linter.unusedVariables false
theorem tdiv_bd {n : Int} (x : Int) {B : Nat} (h : -(B : Int) ≤ n ∧ n ≤ B) : -(B : Int) ≤ n.tdiv x ∧ n.tdiv x ≤ B := by
  have := Int.natAbs_tdiv_le_natAbs n x
  omega
theorem gcd_stepA {x y g : Nat} (h : Nat.gcd x y = g) : Nat.gcd y (x % y) = g := by
  rw [← h, Nat.gcd_comm x y, Nat.gcd_rec y x, Nat.gcd_comm]
/-- a box of two numbers, and what lies below it -/
def RBox (w : World) (b : Nat) (n d : Int) (W : World) : Prop := W.cell? ⟨b, 0, none⟩ = some (.int .i64 n) ∧ W.cell? ⟨b, 1, none⟩ = some (.int .i64 d) ∧ b < W.heap.size ∧ Below w.heap.size w W
theorem RBox.kept {w W W' : World} {b : Nat} {n d : Int} (h : RBox w b n d W) (hb : Below W.heap.size W W') : RBox w b n d W' :=
  ⟨(hb.cell (p := ⟨b, 0, none⟩) h.2.2.1).trans h.1, (hb.cell (p := ⟨b, 1, none⟩) h.2.2.1).trans h.2.1, Nat.lt_of_lt_of_le h.2.2.1 hb.size, h.2.2.2.trans (hb.mono h.2.2.2.size)⟩
theorem RBox.drew {w W : World} {b : Nat} {n d : Int} (h : RBox w b n d W) : RBox w b n d W.drew := h.kept (Below.refl _ _).drew
theorem rboxKeep {w W W' : World} {b : Nat} {n d : Int} (h : W.cell? ⟨b, 0, none⟩ = some (.int .i64 n) ∧ W.cell? ⟨b, 1, none⟩ = some (.int .i64 d) ∧ RBox w b n d W) (hb : Below W.heap.size W W') : W'.cell? ⟨b, 0, none⟩ = some (.int .i64 n) ∧ W'.cell? ⟨b, 1, none⟩ = some (.int .i64 d) ∧ RBox w b n d W' :=
  ⟨(h.2.2.kept hb).1, (h.2.2.kept hb).2.1, h.2.2.kept hb⟩
theorem rboxBel {w W : World} {b : Nat} {n d : Int} (h : W.cell? ⟨b, 0, none⟩ = some (.int .i64 n) ∧ W.cell? ⟨b, 1, none⟩ = some (.int .i64 d) ∧ RBox w b n d W) : Below w.heap.size w W := h.2.2.2.2.2
end Go.Proofs.YtmfcknlpbliehaaDoor
