/- FnExactAllPairsApart: for every input the law answers true, and what came in reads as it did. No condition. -/
import Derived.Test.YtnlmjeakdjmohaaRows
import Derived.Test.YtnlmjeakdjmohaaFacts
import Derived.Test.YtnlmjeakdjmohaaKFnExactAllPairsApart36
import Derived.WalkKit
import Derived.ProofKit
import Derived.OpenShut
import Derived.ShutString
import Derived.ChangeOld
import Derived.Below
import Derived.Lib.SmallJoins
namespace Go.Proofs.Ytnlmjeakdjmohaa.fnExactAllPairsApart
open Go.ChangeShapes Go.WideShapes Go.ChangeAt Go.RowKit
open Go.ChangeMaps (open_string shut_string)
set_option linter.unusedVariables false

theorem own : ownKnob Try.prog.godebug = none := by kernel_rfl
theorem laidOut : laidOutB Try.prog = true := by kernel_rfl

set_option maxRecDepth 100000 in
theorem lifted (os : Os) (started : os.Started) (H : Type) (enc : TypeId × Value → H) :
    ReturnsInHanded {} Try.checked os 4 .any (Rows.fnExactAllPairsApartSpec.pre6 enc Try.prog Try.f4 Rows.fnExactAllPairsApartRow.domain false) (Rows.fnExactAllPairsApartSpec.post enc Try.prog Try.f4 false true false false) := by
  refine returnsInHanded_of_change (C := Try.checked) own started (by kernel_rfl) Try.func4
    (ChangeSpec.witness6 (enc := enc) (C := Try.checked) false ⟨#[], #[.agg #[.int .i64 0, .int .i64 0], .agg #[.int .i64 0, .int .i64 0], .agg #[.int .i64 0, .int .i64 0], .agg #[.int .i64 0, .int .i64 0]], []⟩ 8 (by kernel_rfl) (by kernel_rfl) (by kernel_rfl) (by kernel_rfl)) ?_
  intro W base args ds gs before hval0 hW hcnd _
  have hval : ∀ (j : Nat) t v, Try.f4.params[j]? = some t → args[j]? = some v → Value.okWide Try.prog W .any base t v := hval0
  have hW' := hW
  obtain ⟨p, q, hA0, hV, rfl, hfz, hnd⟩ := hW
  have hA : DataW.TrodAll enc Try.prog W 0 (fun _ => true) true Try.f4.params.toList args.toList ds p := hA0
  rw [Try.params4] at hA hval
  obtain ⟨v0, vs0, d0, ds0, p0, q0, hargs, rfl, rfl, h0, r0⟩ := trodAll_cons hA
  obtain ⟨v1, vs1, d1, ds1, p1, q1, rfl, rfl, rfl, h1, r1⟩ := trodAll_cons r0
  obtain ⟨v2, vs2, d2, ds2, p2, q2, rfl, rfl, rfl, h2, r2⟩ := trodAll_cons r1
  obtain ⟨v3, vs3, d3, ds3, p3, q3, rfl, rfl, rfl, h3, r3⟩ := trodAll_cons r2
  obtain ⟨rfl, rfl, rfl⟩ := trodAll_nil r3
  obtain rfl : args = #[v0, v1, v2, v3] := by cases args; simp_all
  obtain ⟨rfl, rfl⟩ := trodVars_none hV
  have k0 := h0
  have lt0 : ∀ x ∈ p0, x.block < W.heap.size := by obtain ⟨m, hm⟩ := k0; exact DataW.trod_lt m _ _ _ hm
  have w0 : True := trivial
  obtain ⟨na0, da0, eq0⟩ : ∃ n d : Int, v0 = .agg #[.int .i64 n, .int .i64 d] := by
    obtain ⟨f, u, y0, y1, n0, e0, _, _, hf, hu⟩ := Go.Joins.open_agg2 Try.underlying35 (by kernel_rfl) (by kernel_rfl) (hval 0 35 v0 rfl rfl) h0
    have rd : ∀ (f : Value) (y : DataW H × List MemPlace), DataW.trod enc Try.prog W 0 (fun _ => true) true n0 3 [f] = some y → ∃ z : Int, f = .int .i64 z := by
      intro f y hy
      obtain ⟨z, hz, _⟩ := DataW.trod_int Try.underlying3 hy
      simp at hz
      exact ⟨z, hz⟩
    obtain ⟨n, hn⟩ := rd f y0 hf
    obtain ⟨d, hd⟩ := rd u y1 hu
    exact ⟨n, d, by rw [e0, hn, hd]⟩
  subst eq0
  have k1 := h1
  have lt1 : ∀ x ∈ p1, x.block < W.heap.size := by obtain ⟨m, hm⟩ := k1; exact DataW.trod_lt m _ _ _ hm
  have w1 : True := trivial
  obtain ⟨na1, da1, eq1⟩ : ∃ n d : Int, v1 = .agg #[.int .i64 n, .int .i64 d] := by
    obtain ⟨f, u, y0, y1, n0, e0, _, _, hf, hu⟩ := Go.Joins.open_agg2 Try.underlying35 (by kernel_rfl) (by kernel_rfl) (hval 1 35 v1 rfl rfl) h1
    have rd : ∀ (f : Value) (y : DataW H × List MemPlace), DataW.trod enc Try.prog W 0 (fun _ => true) true n0 3 [f] = some y → ∃ z : Int, f = .int .i64 z := by
      intro f y hy
      obtain ⟨z, hz, _⟩ := DataW.trod_int Try.underlying3 hy
      simp at hz
      exact ⟨z, hz⟩
    obtain ⟨n, hn⟩ := rd f y0 hf
    obtain ⟨d, hd⟩ := rd u y1 hu
    exact ⟨n, d, by rw [e0, hn, hd]⟩
  subst eq1
  have k2 := h2
  have lt2 : ∀ x ∈ p2, x.block < W.heap.size := by obtain ⟨m, hm⟩ := k2; exact DataW.trod_lt m _ _ _ hm
  have w2 : True := trivial
  obtain ⟨na2, da2, eq2⟩ : ∃ n d : Int, v2 = .agg #[.int .i64 n, .int .i64 d] := by
    obtain ⟨f, u, y0, y1, n0, e0, _, _, hf, hu⟩ := Go.Joins.open_agg2 Try.underlying35 (by kernel_rfl) (by kernel_rfl) (hval 2 35 v2 rfl rfl) h2
    have rd : ∀ (f : Value) (y : DataW H × List MemPlace), DataW.trod enc Try.prog W 0 (fun _ => true) true n0 3 [f] = some y → ∃ z : Int, f = .int .i64 z := by
      intro f y hy
      obtain ⟨z, hz, _⟩ := DataW.trod_int Try.underlying3 hy
      simp at hz
      exact ⟨z, hz⟩
    obtain ⟨n, hn⟩ := rd f y0 hf
    obtain ⟨d, hd⟩ := rd u y1 hu
    exact ⟨n, d, by rw [e0, hn, hd]⟩
  subst eq2
  have k3 := h3
  have lt3 : ∀ x ∈ p3, x.block < W.heap.size := by obtain ⟨m, hm⟩ := k3; exact DataW.trod_lt m _ _ _ hm
  have w3 : True := trivial
  obtain ⟨na3, da3, eq3⟩ : ∃ n d : Int, v3 = .agg #[.int .i64 n, .int .i64 d] := by
    obtain ⟨f, u, y0, y1, n0, e0, _, _, hf, hu⟩ := Go.Joins.open_agg2 Try.underlying35 (by kernel_rfl) (by kernel_rfl) (hval 3 35 v3 rfl rfl) h3
    have rd : ∀ (f : Value) (y : DataW H × List MemPlace), DataW.trod enc Try.prog W 0 (fun _ => true) true n0 3 [f] = some y → ∃ z : Int, f = .int .i64 z := by
      intro f y hy
      obtain ⟨z, hz, _⟩ := DataW.trod_int Try.underlying3 hy
      simp at hz
      exact ⟨z, hz⟩
    obtain ⟨n, hn⟩ := rd f y0 hf
    obtain ⟨d, hd⟩ := rd u y1 hu
    exact ⟨n, d, by rw [e0, hn, hd]⟩
  subst eq3
  clear hA0 hval0
  refine (wFnExactAllPairsApart na0 da0 na1 da1 na2 da2 na3 da3 W w0 w1 w2 w3).mono fun e W' ⟨he, bel⟩ => ?_
  subst he
  exact ⟨_, rfl, _, _, _, [], _, [], hW', trodAll_mk1 (shut_bool Try.underlying4 _), (trodAll_cons_mk (Below.trod laidOut (by kernel_rfl) (of_decide_eq_true (by kernel_rfl)) k0 bel lt0) (trodAll_cons_mk (Below.trod laidOut (by kernel_rfl) (of_decide_eq_true (by kernel_rfl)) k1 bel lt1) (trodAll_cons_mk (Below.trod laidOut (by kernel_rfl) (of_decide_eq_true (by kernel_rfl)) k2 bel lt2) (trodAll_cons_mk (Below.trod laidOut (by kernel_rfl) (of_decide_eq_true (by kernel_rfl)) k3 bel lt3) trodAll_mk0)))), rfl, bel.frame _, fun h => by cases h⟩

theorem closed : joinedFacts Try.prog 4 Try.f4 Rows.fnExactAllPairsApartSpec Rows.fnExactAllPairsApartRow = true :=
  (and_mk (and_mk (and_mk (and_mk (and_mk (and_mk (and_mk (and_mk (and_mk (and_mk (and_mk (and_mk (and_mk (and_mk (and_mk (and_mk (and_mk (and_mk (and_mk (and_mk (and_mk (and_mk (and_mk (and_mk (and_mk (and_mk (and_mk (and_mk (and_mk (and_mk (and_mk (by kernel_rfl) laid_out) (by kernel_rfl)) (by kernel_rfl)) (by kernel_rfl)) (by kernel_rfl)) (by kernel_rfl)) (by kernel_rfl)) (by kernel_rfl)) (by kernel_rfl)) (by kernel_rfl)) (by kernel_rfl)) (by kernel_rfl)) (by kernel_rfl)) (by kernel_rfl)) (by kernel_rfl)) (by kernel_rfl)) (by kernel_rfl)) (by kernel_rfl)) (by kernel_rfl)) (by kernel_rfl)) (by kernel_rfl)) (by kernel_rfl)) (by kernel_rfl)) (by kernel_rfl)) may_enter) (lifted_is lifts_final)) (made_is make_is)) (by kernel_rfl)) (by kernel_rfl)) (by kernel_rfl)) (by kernel_rfl))

theorem over : Rows.fnExactAllPairsApartRow.holds Try.pinned (OpenSpec.ofChange Rows.fnExactAllPairsApartSpec) :=
  OpenClaim.holds_of_wide 4 Try.f4 rfl rfl rfl rfl rfl rfl rfl ⟨rfl, rfl, rfl, rfl, rfl⟩ rfl rfl rfl rfl rfl (by kernel_rfl) Try.func4 closed
    (of_decide_eq_true (by kernel_rfl)) (by unfold Func.isWrapper; first | (rw [if_pos (by decide +kernel)]; kernel_rfl) | (rw [if_neg (by decide +kernel)]; exact ⟨rfl, rfl⟩))
    (fun os started H enc _ => lifted os started H enc)

theorem proved : Rows.FnExactAllPairsApartSaid := over
end Go.Proofs.Ytnlmjeakdjmohaa.fnExactAllPairsApart
