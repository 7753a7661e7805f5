/- Pack 23 of what FnPathsReflected needs: RlS, InList. -/
import Derived.Test.YtachijliaedndaaKFnPathsReflected22
/- Literal rows for the draws, and the law's word for inputs that are too long. -/
namespace Go.Proofs.Ytachijliaedndaa
open Go.RowKit
set_option linter.unusedVariables false
theorem rowLit (w : World) (C : Array Value) (xs : List Int) (P : Int → Prop) (hC : C = (xs.map (Value.int .i64)).toArray) (hP : ∀ x ∈ xs, P x) : RowI (w.alloc (.cells C 3)) w.heap.size xs.length P := by
  subst hC
  refine ⟨by simp, fun j hj => ⟨xs.getD j 0, ?_, ?_⟩⟩
  · rw [List.getD_eq_getElem?_getD, List.getElem?_eq_getElem hj]
    exact hP _ (List.getElem_mem hj)
  · rw [List.getD_eq_getElem?_getD, List.getElem?_eq_getElem hj]
    simp [hj]
def Small (x : Int) : Prop := -1 ≤ x ∧ x ≤ 13
set_option maxHeartbeats 400000 in
theorem bigAny (A1 A2 : Option Addr) (l1 c1 l2 c2 : Nat) (w : World) (h1 : l1 ≤ maxLen) (h2 : l2 ≤ maxLen) :
    Calls Try.prog 9 #[.slice A1 l1 c1, .slice A2 l2 c2] w fun e w' => e = .returned (.bool (decide (1048576 < l1 + l2))) ∧ w = w' := by
  unfold maxLen at h1 h2
  by_cases hb : 1048576 < l1
  · have e : decide (1048576 < l1 + l2) = true := decide_eq_true (by omega)
    rw [e]
    go_enter Try.func9, Try.ntmps9
    go_wp2
    go_ret
    exact ⟨rfl, rfl⟩
  · have d1 : decide ((1048576 : Int) < (l1 : Int)) = false := decide_eq_false (by omega)
    by_cases hb2 : (1048576 : Int) - (l1 : Int) < (l2 : Int)
    · have e : decide (1048576 < l1 + l2) = true := decide_eq_true (by omega)
      rw [e]
      have d2 : decide ((1048576 : Int) - (l1 : Int) < (l2 : Int)) = true := decide_eq_true hb2
      go_enter Try.func9, Try.ntmps9
      go_wp2
      go_ret
      exact ⟨rfl, rfl⟩
    · have e : decide (1048576 < l1 + l2) = false := decide_eq_false (by omega)
      rw [e]
      have d2 : decide ((1048576 : Int) - (l1 : Int) < (l2 : Int)) = false := decide_eq_false hb2
      go_enter Try.func9, Try.ntmps9
      go_wp2
      go_ret
      exact ⟨rfl, rfl⟩
end Go.Proofs.Ytachijliaedndaa

/- A slice of ints that came in, or is only read; toIntS, the laws' copy. -/
namespace Go.Proofs.Ytachijliaedndaa
open Go.RowKit
set_option linter.unusedVariables false
/-- a slice of ints that came in: nil, or a row of cap numbers of which the first len are its elements -/
def IsInts (w : World) (a : Option Addr) (len cap : Nat) (zs : List Int) : Prop :=
  (a = none ∧ len = 0 ∧ cap = 0 ∧ zs = []) ∨
  ∃ x, a = some x ∧ len ≤ cap ∧ cap ≤ maxLen ∧ zs.length = cap ∧ (∀ i, i < zs.length → w.cell? (x.add i) = some (.int .i64 (zs.getD i 0))) ∧ ∀ n ∈ zs, (Lit.int .i64 n).wf = true
/-- a slice of ints that is only read: its elements are xs -/
structure RInts (w : World) (v : Value) (xs : List Int) : Prop where
  shape : ∃ A c, v = .slice A xs.length c
  room : ∀ A n c, v = .slice A n c → n ≤ c ∧ c ≤ maxLen
  cells : 0 < xs.length → ∃ g o c, v = .slice (some ⟨g, o, none⟩) xs.length c ∧ g < w.heap.size ∧ ∀ j, j < xs.length → w.cell? ⟨g, o + j, none⟩ = some (.int .i64 (xs.getD j 0))
theorem RInts.below {w w' : World} {v : Value} {xs : List Int} (h : RInts w v xs) (hb : Below w.heap.size w w') : RInts w' v xs :=
  ⟨h.shape, h.room, fun hx => by
    obtain ⟨g, o, c, hv, hg, hc⟩ := h.cells hx
    exact ⟨g, o, c, hv, Nat.lt_of_lt_of_le hg hb.size, fun j hj => (hb.cell (p := ⟨g, o + j, none⟩) hg).trans (hc j hj)⟩⟩
theorem RInts.of_row {w : World} {B : Nat} {v : Value} {xs : List Int} (h : IRow w B v xs) : RInts w v xs :=
  ⟨h.shape, fun A n c e => by
    rcases h.2 with ⟨h1, _⟩ | ⟨g, cap, cur, h1, _, _, h2, h3, _⟩
    · rw [h1] at e
      injection e with e1 e2 e3
      subst e2 e3
      exact ⟨Nat.le_refl _, by simp [maxLen]⟩
    · rw [h1] at e
      injection e with e1 e2 e3
      subst e2 e3
      exact ⟨h2, h3⟩, fun hx => by
    obtain ⟨g, c, hv, _, hg⟩ := h.form' rfl hx
    subst hv
    exact ⟨g, 0, c, rfl, hg, fun j hj => by rw [Nat.zero_add]; exact h.cell hj⟩⟩
theorem RInts.of_in {w : World} {a : Option Addr} {len cap : Nat} {zs : List Int} (h : IsInts w a len cap zs) : RInts w (.slice a len cap) (zs.take len) := by
  rcases h with ⟨rfl, rfl, rfl, rfl⟩ | ⟨x, rfl, hl, hm, hz, hcell, _⟩
  · exact ⟨⟨_, _, rfl⟩, fun A n c e => by injection e with e1 e2 e3; subst e2 e3; exact ⟨Nat.le_refl _, by simp [maxLen]⟩, fun h => absurd h (by simp)⟩
  · have hlen : (zs.take len).length = len := by rw [List.length_take]; omega
    refine ⟨⟨some x, cap, by rw [hlen]⟩, fun A n c e => by injection e with e1 e2 e3; subst e2 e3; exact ⟨hl, hm⟩, fun hx => ?_⟩
    rw [hlen] at hx
    obtain ⟨b, off, spot⟩ := x
    have h0 := hcell 0 (by omega)
    have hspot : spot = none := by simpa [Addr.add] using World.cell?_spot h0
    subst hspot
    refine ⟨b, off, cap, by rw [hlen], World.block_lt_of_cell? w _ h0, fun j hj => ?_⟩
    rw [hlen] at hj
    have := hcell j (by omega)
    have e : (⟨b, off, none⟩ : Addr).add j = ⟨b, off + j, none⟩ := by unfold Addr.add; split <;> simp_all
    rw [e] at this
    rw [this, List.getD_eq_getElem?_getD, List.getD_eq_getElem?_getD, List.getElem?_take, if_pos hj]
/-- the first k copied -/
def copied (xs : List Int) (k : Nat) : List Int := xs.take k ++ List.replicate (xs.length - k) 0
theorem copied_length (xs : List Int) (k : Nat) (h : k ≤ xs.length) : (copied xs k).length = xs.length := by simp [copied]; omega
theorem copied_set (xs : List Int) (k : Nat) (h : k < xs.length) : (copied xs k).set k (xs.getD k 0) = copied xs (k + 1) := by
  unfold copied
  rw [List.take_succ_eq_append_getElem h, List.set_append, List.length_take, if_neg (by omega), show k - min k xs.length = 0 by omega,
    show xs.length - k = (xs.length - (k + 1)) + 1 by omega, List.replicate_succ, List.set_cons_zero, List.getD_eq_getElem?_getD, List.getElem?_eq_getElem h, List.append_assoc]
  rfl
theorem copied_full (xs : List Int) : copied xs xs.length = xs := by simp [copied]
/-- two rows: the one above, the other below -/
theorem IRow.grown_over {w w' : World} {B B2 : Nat} {v v2 : Value} {xs : List Int} (h : IRow w B v xs) (hg : w.grownBy w' v2.ownBlock) (hv : ∀ k, v.ownBlock = some k → B2 ≤ k) (hv2 : ∀ k, v2.ownBlock = some k → k < B2) : IRow w' B v xs :=
  World.ownsRow.kept h hg (by
    cases e : v.ownBlock with
    | none => exact .inl rfl
    | some k =>
      right
      intro e2
      have a := hv k e
      have b := hv2 k e2.symm
      omega)
end Go.Proofs.Ytachijliaedndaa
