/- Pack 10 of what FnExactVotesOfTable needs: DetS, LvLaw. -/
import Derived.Test.YtmfcknlpbliehaaDoorKFnExactVotesOfTable9
import Derived.IntWalk
import Derived.Handy
/- The model's kiDet. -/
namespace Go.Proofs.YtmfcknlpbliehaaDoor
open Go.RowKit
set_option maxRecDepth 100000 in
set_option linter.unusedVariables false
/-- append of what a slice holds that is only read, at a step of a region that draws its order -/
theorem step_extendR {ops : Array Oper} {o : Oper} {a : Act} {K : Act → World → Prop} {Q : Exit → Act → World → Prop} {E : Prop} {w : World} (s x : Operand) (hgd : o.guard = none)
    (ho : o.op = .call { callee := .builtin .append, args := #[s, x], argTypes := #[33, 33] })
    (B : Nat) (v u : Value) (xs ys : List Int) (hs : a.eval s = v) (hown : IRow w B v xs) (hx : a.eval x = u) (hr : RInts w u ys)
    (hlen : xs.length + ys.length ≤ 1099511627776) (hB : B ≤ w.heap.size)
    (h : ∀ v' w', IRow w' B v' (xs ++ ys) → w.grownBy w' v.ownBlock → K (a.put o.dst v') w') :
    if Region.wanted o (yielded ops a.tmps) = true then Oper.wp Tryd.prog o a w K Q else E := by
  have hw : Region.wanted o (yielded ops a.tmps) = true := by simp [Region.wanted, hgd]
  rw [if_pos hw]
  obtain ⟨v', w', hr, h2, h3⟩ := run_extendR w o.type B v u xs ys hown hr hlen hB
  unfold Oper.wp execOp
  simp only [ho, resolve, invoke, builtin, Sem.run_bind, Sem.run_pure, Result.andThen_ok, List.map_toArray, List.map_cons, List.map_nil, hs, hx, hr]
  exact h v' w' h2 h3
/-- rows that are only read, with their room -/
structure MRows (w : World) (v : Value) (xss : List (List Int)) : Prop where
  rows : LRows w v xss
  room : ∀ A n c, v = .slice A n c → n ≤ c ∧ c ≤ maxLen
theorem TRow.mrows {w : World} {B M : Nat} {v : Value} {vs : List Value} {xss : List (List Int)} (h : TRow w B M v vs xss) : MRows w v xss :=
  ⟨h.rows, fun A n c e => by
    rcases h.out.2 with ⟨h1, _⟩ | ⟨g, cap, cur, h1, _, _, h2, h3, _⟩
    · rw [h1] at e
      injection e with e1 e2 e3
      subst e2 e3
      exact ⟨Nat.le_refl _, by simp [maxLen]⟩
    · rw [h1] at e
      injection e with e1 e2 e3
      subst e2 e3
      exact ⟨h2, h3⟩⟩
theorem rints_empty (w : World) (a : Option Addr) (c : Nat) (hm : c ≤ maxLen) : RInts w (.slice a 0 c) [] :=
  ⟨⟨_, _, rfl⟩, fun A n c2 e => by injection e with e1 e2 e3; subst e2 e3; exact ⟨Nat.zero_le _, hm⟩, fun h => absurd h (by simp)⟩
theorem hat_alloc' {v v' : Value} {w : World} {o : Obj} (h : v'.ownBlock = v.ownBlock ∨ ∃ g, v'.ownBlock = some g ∧ (w.alloc o).heap.size ≤ g) : v'.ownBlock = v.ownBlock ∨ ∃ g, v'.ownBlock = some g ∧ w.heap.size ≤ g := by
  rcases h with h | ⟨g, h1, h2⟩
  · exact .inl h
  · exact .inr ⟨g, h1, by simp at h2; omega⟩
end Go.Proofs.YtmfcknlpbliehaaDoor

/- The laws' own words on levels: copies, sizes, comparisons. -/
namespace Go.Proofs.YtmfcknlpbliehaaDoor
open Go.RowKit
set_option linter.unusedVariables false
theorem setCell_grown (W : World) (p : Addr) (v : Value) (hs : p.spot = none) : W.grownBy (W.setCell p v) (some p.block) := by
  have hsz : (W.setCell p v).heap.size = W.heap.size := by simp [World.setCell]
  refine ⟨rfl, rfl, rfl, by rw [hsz]; omega, fun i hi hne => ?_⟩
  unfold World.setCell
  simp only [Array.getElem?_modify]
  rw [if_neg (fun e => hne (by rw [e]))]
theorem IRow.low {w : World} {B : Nat} {v : Value} {xs : List Int} (h : IRow w B v xs) (p : Addr) (hs : p.spot = none) (hp : p.block < B) (x : Value) : IRow (w.setCell p x) B v xs :=
  World.ownsRow.kept h (setCell_grown w p x hs) (by
    cases e : v.ownBlock with
    | none => exact .inl rfl
    | some k =>
      right
      intro e2
      have := (h.blk k e).1
      injection e2 with e3
      omega)
theorem szInts_any (v : Value) (xs : List Int) (left : Int) (w : World) (h : RInts w v xs) (hl : xs.length ≤ 9223372036854775807) (h0 : 0 ≤ left ∧ left ≤ 1048576) :
    Calls Tryd.prog 21 #[v, .int .i64 left] w fun e w' => e = .returned (.int .i64 (if left - xs.length < 0 then -1 else left - xs.length)) ∧ w = w' := by
  obtain ⟨A, c, rfl⟩ := h.shape
  clear h
  by_cases hq : left - (xs.length : Int) < 0
  · rw [if_pos hq]
    go_enter Tryd.func21, Tryd.ntmps21
    go_wp2
    go_ret
    exact ⟨rfl, rfl⟩
  · rw [if_neg hq]
    go_enter Tryd.func21, Tryd.ntmps21
    go_wp2
    go_ret
    exact ⟨rfl, rfl⟩
def szLv (left : Int) (n m : Nat) : Int := if left - n < 0 then -1 else if left - n - m < 0 then -1 else left - n - m
/-- a copy of levels: two rows of the call's own -/
def LevNew (w : World) (fs ds : List Int) (e : Ending) (w' : World) : Prop :=
  ∃ v u, e = .returned (.agg #[v, u]) ∧ IRow w' w.heap.size v fs ∧ IRow w' w.heap.size u ds ∧ (∀ q, v.ownBlock = some q → u.ownBlock ≠ some q) ∧ Below w.heap.size w w'
/-- levels that are only read -/
def RLev (w : World) (x : Value) (fs ds : List Int) : Prop := ∃ v u, x = .agg #[v, u] ∧ RInts w v fs ∧ RInts w u ds
theorem RLev.below {w w' : World} {x : Value} {fs ds : List Int} (h : RLev w x fs ds) (hb : Below w.heap.size w w') : RLev w' x fs ds := by
  obtain ⟨v, u, e, h1, h2⟩ := h
  exact ⟨v, u, e, h1.below hb, h2.below hb⟩
theorem RInts.max {w : World} {v : Value} {xs : List Int} (h : RInts w v xs) : xs.length ≤ 9223372036854775807 := by
  obtain ⟨A, c, rfl⟩ := h.shape
  have := h.room _ _ _ rfl
  unfold maxLen at this
  omega
theorem szLv_no {n m : Nat} (h : ¬ (n + m ≤ 1048576)) : szLv 1048576 n m < 0 := by
  unfold szLv
  split
  · omega
  · split <;> omega
theorem szLv_yes {n m : Nat} (h : n + m ≤ 1048576) : szLv 1048576 n m = 1048576 - n - m := by unfold szLv; rw [if_neg (by omega), if_neg (by omega)]
/-- levels of the call's own -/
def OLev (w : World) (B : Nat) (x : Value) (fs ds : List Int) : Prop := ∃ v u, x = .agg #[v, u] ∧ IRow w B v fs ∧ IRow w B u ds ∧ ∀ q, v.ownBlock = some q → u.ownBlock ≠ some q
theorem OLev.read {w : World} {B : Nat} {x : Value} {fs ds : List Int} (h : OLev w B x fs ds) : RLev w x fs ds := by
  obtain ⟨v, u, e, h1, h2, _⟩ := h
  exact ⟨v, u, e, RInts.of_row h1, RInts.of_row h2⟩
theorem OLev.below {w w' : World} {B : Nat} {x : Value} {fs ds : List Int} (h : OLev w B x fs ds) (hb : Below w.heap.size w w') : OLev w' B x fs ds := by
  obtain ⟨v, u, e, h1, h2, h3⟩ := h
  exact ⟨v, u, e, h1.below hb, h2.below hb, h3⟩
end Go.Proofs.YtmfcknlpbliehaaDoor
