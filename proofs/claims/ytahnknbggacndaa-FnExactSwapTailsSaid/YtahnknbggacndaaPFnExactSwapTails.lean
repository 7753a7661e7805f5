/- FnExactSwapTails: for every input the law answers true, and what came in reads as it did. No condition. -/
import Derived.Test.YtahnknbggacndaaRows
import Derived.Test.YtahnknbggacndaaFacts
import Derived.Test.YtahnknbggacndaaWFnExactSwapTails
import Derived.WalkKit
import Derived.ProofKit
import Derived.OpenShut
import Derived.ShutString
import Derived.ChangeOld
import Derived.Below
import Derived.Lib.SmallJoins
namespace Go.Proofs.Ytahnknbggacndaa.fnExactSwapTails
open Go.ChangeShapes Go.WideShapes Go.ChangeAt Go.RowKit
open Go.ChangeMaps (open_string shut_string)
set_option linter.unusedVariables false

theorem own : ownKnob Try.prog.godebug = none := by kernel_rfl
theorem laidOut : laidOutB Try.prog = true := by kernel_rfl

set_option maxRecDepth 100000 in
theorem lifted (os : Os) (started : os.Started) (H : Type) (enc : TypeId × Value → H) :
    ReturnsInHanded {} Try.checked os 11 .any (Rows.fnExactSwapTailsSpec.pre6 enc Try.prog Try.f11 Rows.fnExactSwapTailsRow.domain false) (Rows.fnExactSwapTailsSpec.post enc Try.prog Try.f11 false true false false) := by
  refine returnsInHanded_of_change (C := Try.checked) own started (by kernel_rfl) Try.func11
    (ChangeSpec.witness6 (enc := enc) (C := Try.checked) false ⟨#[], #[.agg #[.int .i64 0, .int .i64 0, .string ⟨#[]⟩], .agg #[.int .i64 0, .int .i64 0, .string ⟨#[]⟩]], []⟩ 8 (by kernel_rfl) (by kernel_rfl) (by kernel_rfl) (by kernel_rfl)) ?_
  intro W base args ds gs before hval0 hW hcnd _
  have hval : ∀ (j : Nat) t v, Try.f11.params[j]? = some t → args[j]? = some v → Value.okWide Try.prog W .any base t v := hval0
  have hW' := hW
  obtain ⟨p, q, hA0, hV, rfl, hfz, hnd⟩ := hW
  have hA : DataW.TrodAll enc Try.prog W 0 (fun _ => true) true Try.f11.params.toList args.toList ds p := hA0
  rw [Try.params11] at hA hval
  obtain ⟨v0, vs0, d0, ds0, p0, q0, hargs, rfl, rfl, h0, r0⟩ := trodAll_cons hA
  obtain ⟨v1, vs1, d1, ds1, p1, q1, rfl, rfl, rfl, h1, r1⟩ := trodAll_cons r0
  obtain ⟨rfl, rfl, rfl⟩ := trodAll_nil r1
  obtain rfl : args = #[v0, v1] := by cases args; simp_all
  obtain ⟨rfl, rfl⟩ := trodVars_none hV
  have k0 := h0
  have lt0 : ∀ x ∈ p0, x.block < W.heap.size := by obtain ⟨m, hm⟩ := k0; exact DataW.trod_lt m _ _ _ hm
  obtain ⟨xa0, ya0, sa0, eq0, w0⟩ : ∃ (x y : Int) (s : ByteArray), v0 = .agg #[.int .i64 x, .int .i64 y, .string s] ∧ s.size ≤ maxLen := by
    obtain ⟨cs, e0, hsz⟩ := okWide_struct Try.underlying29 (hval 0 29 v0 rfl rfl)
    obtain ⟨c0, c1, c2, rfl⟩ := Go.Joins.array3 (hsz.trans (by kernel_rfl))
    subst e0
    have z1 : Try.prog.cellsOf 3 = 1 := by kernel_rfl
    have z2 : Try.prog.cellsOf 23 = 2 := by kernel_rfl
    have z3 : Try.prog.cellsOf 9 = 1 := by kernel_rfl
    obtain ⟨fuel, hf⟩ := h0
    obtain ⟨y0, y1, n, _, _, g0, g1⟩ := trod_struct2 Try.underlying29 hf
    obtain ⟨y2, y3, n2, _, _, g2, g3⟩ := trod_struct2 Try.underlying23 g0
    simp [Value.cells, z1, z2, z3] at g1 g2 g3
    obtain ⟨x, hx, _⟩ := DataW.trod_int Try.underlying3 g2
    obtain ⟨y, hy, _⟩ := DataW.trod_int Try.underlying3 g3
    obtain ⟨s, hs, _, hm⟩ := DataW.trod_string Try.underlying9 g1
    simp at hx hy hs
    exact ⟨x, y, s, by rw [hx, hy, hs], hm⟩
  subst eq0
  have k1 := h1
  have lt1 : ∀ x ∈ p1, x.block < W.heap.size := by obtain ⟨m, hm⟩ := k1; exact DataW.trod_lt m _ _ _ hm
  obtain ⟨xa1, ya1, sa1, eq1, w1⟩ : ∃ (x y : Int) (s : ByteArray), v1 = .agg #[.int .i64 x, .int .i64 y, .string s] ∧ s.size ≤ maxLen := by
    obtain ⟨cs, e0, hsz⟩ := okWide_struct Try.underlying29 (hval 1 29 v1 rfl rfl)
    obtain ⟨c0, c1, c2, rfl⟩ := Go.Joins.array3 (hsz.trans (by kernel_rfl))
    subst e0
    have z1 : Try.prog.cellsOf 3 = 1 := by kernel_rfl
    have z2 : Try.prog.cellsOf 23 = 2 := by kernel_rfl
    have z3 : Try.prog.cellsOf 9 = 1 := by kernel_rfl
    obtain ⟨fuel, hf⟩ := h1
    obtain ⟨y0, y1, n, _, _, g0, g1⟩ := trod_struct2 Try.underlying29 hf
    obtain ⟨y2, y3, n2, _, _, g2, g3⟩ := trod_struct2 Try.underlying23 g0
    simp [Value.cells, z1, z2, z3] at g1 g2 g3
    obtain ⟨x, hx, _⟩ := DataW.trod_int Try.underlying3 g2
    obtain ⟨y, hy, _⟩ := DataW.trod_int Try.underlying3 g3
    obtain ⟨s, hs, _, hm⟩ := DataW.trod_string Try.underlying9 g1
    simp at hx hy hs
    exact ⟨x, y, s, by rw [hx, hy, hs], hm⟩
  subst eq1
  clear hA0 hval0
  refine (wFnExactSwapTails xa0 ya0 sa0 xa1 ya1 sa1 W w0 w1).mono fun e W' ⟨he, bel⟩ => ?_
  subst he
  exact ⟨_, rfl, _, _, _, [], _, [], hW', trodAll_mk1 (shut_bool Try.underlying4 _), (trodAll_cons_mk (Below.trod laidOut (by kernel_rfl) (of_decide_eq_true (by kernel_rfl)) k0 bel lt0) (trodAll_cons_mk (Below.trod laidOut (by kernel_rfl) (of_decide_eq_true (by kernel_rfl)) k1 bel lt1) trodAll_mk0)), rfl, bel.frame _, fun h => by cases h⟩

theorem closed : joinedFacts Try.prog 11 Try.f11 Rows.fnExactSwapTailsSpec Rows.fnExactSwapTailsRow = true :=
  (and_mk (and_mk (and_mk (and_mk (and_mk (and_mk (and_mk (and_mk (and_mk (and_mk (and_mk (and_mk (and_mk (and_mk (and_mk (and_mk (and_mk (and_mk (and_mk (and_mk (and_mk (and_mk (and_mk (and_mk (and_mk (and_mk (and_mk (and_mk (and_mk (and_mk (and_mk (by kernel_rfl) laid_out) (by kernel_rfl)) (by kernel_rfl)) (by kernel_rfl)) (by kernel_rfl)) (by kernel_rfl)) (by kernel_rfl)) (by kernel_rfl)) (by kernel_rfl)) (by kernel_rfl)) (by kernel_rfl)) (by kernel_rfl)) (by kernel_rfl)) (by kernel_rfl)) (by kernel_rfl)) (by kernel_rfl)) (by kernel_rfl)) (by kernel_rfl)) (by kernel_rfl)) (by kernel_rfl)) (by kernel_rfl)) (by kernel_rfl)) (by kernel_rfl)) (by kernel_rfl)) may_enter) (lifted_is lifts_final)) (made_is make_is)) (by kernel_rfl)) (by kernel_rfl)) (by kernel_rfl)) (by kernel_rfl))

theorem over : Rows.fnExactSwapTailsRow.holds Try.pinned (OpenSpec.ofChange Rows.fnExactSwapTailsSpec) :=
  OpenClaim.holds_of_wide 11 Try.f11 rfl rfl rfl rfl rfl rfl rfl ⟨rfl, rfl, rfl, rfl, rfl⟩ rfl rfl rfl rfl rfl (by kernel_rfl) Try.func11 closed
    (of_decide_eq_true (by kernel_rfl)) (by unfold Func.isWrapper; first | (rw [if_pos (by decide +kernel)]; kernel_rfl) | (rw [if_neg (by decide +kernel)]; exact ⟨rfl, rfl⟩))
    (fun os started H enc _ => lifted os started H enc)

theorem proved : Rows.FnExactSwapTailsSaid := over
end Go.Proofs.Ytahnknbggacndaa.fnExactSwapTails
