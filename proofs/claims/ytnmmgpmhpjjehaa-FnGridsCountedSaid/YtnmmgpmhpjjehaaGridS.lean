/- What the law on grids draws, and its walk over the program's two contracts. -/
import Derived.Test.YtnmmgpmhpjjehaaGridMath
import Derived.Test.YtnmmgpmhpjjehaaDelS
import Derived.Test.YtnmmgpmhpjjehaaSchS
import Derived.Test.YtnmmgpmhpjjehaaDraws
import Derived.Test.YtnmmgpmhpjjehaaCodeIn
import Derived.Deep.CutBlock
import Derived.Deep.DeepCutAuto
namespace Go.Proofs.Ytnmmgpmhpjjehaa
open Go.RowKit
set_option linter.unusedVariables false
theorem rowLit (w : World) (C : Array Value) (xs : List Int) (P : Int → Prop) (hC : C = (xs.map (Value.int .i64)).toArray) (hP : ∀ x ∈ xs, P x) : RowI (w.alloc (.cells C 3)) w.heap.size xs.length P := by
  subst hC
  refine ⟨by simp, fun j hj => ⟨xs.getD j 0, ?_, ?_⟩⟩
  · rw [List.getD_eq_getElem?_getD, List.getElem?_eq_getElem hj]
    exact hP _ (List.getElem_mem hj)
  · rw [List.getD_eq_getElem?_getD, List.getElem?_eq_getElem hj]
    simp [hj]
def Small (x : Int) : Prop := -1 ≤ x ∧ x ≤ 13
set_option maxHeartbeats 1000000 in
theorem drawDel_any (w : World) (A : Option Addr) (len cap : Nat) (hc : CodeAt w w.heap.size A len) (hl : len ≤ 1099511627776) :
    Calls Try.prog 21 #[.slice A len cap] w fun e w' => ∃ a b : Int, e = .returned (.tuple #[.int .i64 a, .int .i64 b]) ∧ Small a ∧ Small b ∧ Below w.heap.size w w' := by
  have HC := Lib.hid (Cur.new (cap := cap) hc)
  have H1 : Hid (∀ (W : World) (gb : Nat), Cur W w.heap.size A len cap 0 → w.heap.size < W.heap.size → gb = W.heap.size → Calls Try.prog 67 #[.pointer (some ⟨w.heap.size, 0, none⟩), .slice (some ⟨gb, 0, none⟩) 8 8] (W.alloc (.cells #[.int .i64 0, .int .i64 1, .int .i64 2, .int .i64 3, .int .i64 5, .int .i64 12, .int .i64 13, .int .i64 (-1)] 3)) (CurRet (W.alloc (.cells #[.int .i64 0, .int .i64 1, .int .i64 2, .int .i64 3, .int .i64 5, .int .i64 12, .int .i64 13, .int .i64 (-1)] 3)) w.heap.size A len cap 2 (IntP Small))) := Lib.hid fun W gb h1 h2 h3 => by
    subst h3
    exact among_any Small _ w.heap.size A len cap 0 W.heap.size 8 8 (by omega) (rowLit W _ [0, 1, 2, 3, 5, 12, 13, -1] Small rfl (by intro x hx; simp at hx; unfold Small; omega)) (by omega) (h1.alloc _) (by omega) hl
  have H2 : Hid (∀ (W : World) (gb : Nat), Cur W w.heap.size A len cap 2 → w.heap.size < W.heap.size → gb = W.heap.size → Calls Try.prog 67 #[.pointer (some ⟨w.heap.size, 0, none⟩), .slice (some ⟨gb, 0, none⟩) 8 8] (W.alloc (.cells #[.int .i64 0, .int .i64 1, .int .i64 2, .int .i64 4, .int .i64 6, .int .i64 12, .int .i64 13, .int .i64 (-1)] 3)) (CurRet (W.alloc (.cells #[.int .i64 0, .int .i64 1, .int .i64 2, .int .i64 4, .int .i64 6, .int .i64 12, .int .i64 13, .int .i64 (-1)] 3)) w.heap.size A len cap 4 (IntP Small))) := Lib.hid fun W gb h1 h2 h3 => by
    subst h3
    exact among_any Small _ w.heap.size A len cap 2 W.heap.size 8 8 (by omega) (rowLit W _ [0, 1, 2, 4, 6, 12, 13, -1] Small rfl (by intro x hx; simp at hx; unfold Small; omega)) (by omega) (h1.alloc _) (by omega) hl
  clear hc
  go_enter Try.func21, Try.ntmps21
  go_wp2_with fail
  refine (H1.out _ _ HC.out (by simp) (by simp)).mono ?_
  rintro e w1 ⟨v, rfl, ⟨a, rfl, ha⟩, hcur, hg⟩
  have hlt := hcur.lt
  have HG := Lib.hid hg
  have HCU := Lib.hid hcur
  have HA := Lib.hid ha
  clear hcur hg ha
  go_wp2_with fail
  refine (H2.out _ _ HCU.out hlt rfl).mono ?_
  rintro e w2 ⟨v, rfl, ⟨b, rfl, hb⟩, hcur, hg⟩
  have HB : Hid (Below w.heap.size w w2) := Lib.hid (below_of_new (grown_trans' (grown_trans' (grown_of_below ((Below.refl _ _).alloc (Nat.le_refl _) _) _) HG.out) (grown_trans' (grown_of_below ((Below.refl _ _).alloc (Nat.le_refl _) _) _) hg)))
  have HBB := Lib.hid hb
  clear hcur hg hb hlt
  go_wp2
  go_ret2
  exact ⟨a, b, rfl, HA.out, HBB.out, HB.out⟩
set_option maxHeartbeats 400000 in
theorem drawSch_any (w : World) (A : Option Addr) (len cap : Nat) (hc : CodeAt w w.heap.size A len) (hl : len ≤ 1099511627776) :
    Calls Try.prog 24 #[.slice A len cap] w fun e w' => ∃ a : Int, e = .returned (.int .i64 a) ∧ Small a ∧ Below w.heap.size w w' := by
  have HD := Lib.hid (drawDel_any w A len cap hc hl)
  clear hc
  go_enter Try.func24, Try.ntmps24
  go_wp2_with (go_at_call 21; refine HD.out.mono ?_; rintro e w1 ⟨a, b, rfl, ha, hb, hbel⟩)
  go_ret
  exact ⟨a, rfl, ha, hbel⟩
set_option maxHeartbeats 400000 in
theorem bigAny (A1 A2 : Option Addr) (l1 c1 l2 c2 : Nat) (w : World) (h1 : l1 ≤ maxLen) (h2 : l2 ≤ maxLen) :
    Calls Try.prog 20 #[.slice A1 l1 c1, .slice A2 l2 c2] w fun e w' => e = .returned (.bool (decide (1048576 < l1 + l2))) ∧ w = w' := by
  unfold maxLen at h1 h2
  by_cases hb : 1048576 < l1
  · have e : decide (1048576 < l1 + l2) = true := decide_eq_true (by omega)
    rw [e]
    go_enter Try.func20, Try.ntmps20
    go_wp2
    go_ret
    exact ⟨rfl, rfl⟩
  · have d1 : decide ((1048576 : Int) < (l1 : Int)) = false := decide_eq_false (by omega)
    by_cases hb2 : (1048576 : Int) - (l1 : Int) < (l2 : Int)
    · have e : decide (1048576 < l1 + l2) = true := decide_eq_true (by omega)
      rw [e]
      have d2 : decide ((1048576 : Int) - (l1 : Int) < (l2 : Int)) = true := decide_eq_true hb2
      go_enter Try.func20, Try.ntmps20
      go_wp2
      go_ret
      exact ⟨rfl, rfl⟩
    · have e : decide (1048576 < l1 + l2) = false := decide_eq_false (by omega)
      rw [e]
      have d2 : decide ((1048576 : Int) - (l1 : Int) < (l2 : Int)) = false := decide_eq_false hb2
      go_enter Try.func20, Try.ntmps20
      go_wp2
      go_ret
      exact ⟨rfl, rfl⟩
end Go.Proofs.Ytnmmgpmhpjjehaa
