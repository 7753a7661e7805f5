/-
  No cell of these rows narrows 'for every input' (looked for: loops, veiled, ifaces, maps, wideKeys, modest, calm, conditions, laid).
  DERIVED. THE GIVEN ROWS OF THIS SEAT. 22 by the template 'for every input the law returns true; each argument reads behind the call as it read before'; 0 by the template 'total and deterministic' (their statements: YtlgiamgjimffnaaTotals.lean).
  GIVEN WITH THE SEED: the statements are not yours to turn. If you find one false, say at which input.
  Laid BY PROGRAM, IN A SANDBOX (cutbox-rows.mjs): the forced cells as the released guide's own fill.sh prints them over the translation 692812c19f9f6fbc… (all of the seat's roots in one cut). By AI agents, Wed Nov 11 2026. No macro, syntax, notation, axiom, sorry.
-/
import Derived.Test.YtlgiamgjimffnaaChecked
import GoSem.Claim
import GoSem.ClaimJoined
import GoSem.ClaimMapViews
import Derived.JoinedTies
import Derived.KernelRfl
namespace Go.Proofs.Ytlgiamgjimffnaa
/- THE CELL 'sum', in the pinned program and in every row, IS THE sha256 OF THE DUMP (.gsa) THAT YtlgiamgjimffnaaProg.lean LOADS. Nothing in Lean hashes anything: it is a label: what it is worth is what the hold of that sum in a sandbox is worth. -/
noncomputable def Try.pinned : Pinned := { name := "ytlgiamgjimffnaa", sum := "692812c19f9f6fbcf9a8d12cb57d77fc509cbac3482d3ae8c893219b59fc3b6c", checked := Try.checked }
namespace Rows
def none {H : Type} : Left H := { results := [], args := [] }

/-- 'laws.FnExactIsAhead': WHATEVER THE INPUT: true; the input reads as it did. -/
def fnExactIsAheadSpec : ChangeSpec := { name := "fnExactIsAhead", fn := fun _ => fun
  | [d1, d2] => { results := [.lit (.bool true)], args := [d1, d2] }
  | _ => none }
def fnExactIsAheadRow : OpenClaim := { program := "ytlgiamgjimffnaa", sum := "692812c19f9f6fbcf9a8d12cb57d77fc509cbac3482d3ae8c893219b59fc3b6c", func := "loop.example/g01218/laws.FnExactIsAhead", spec := "fnExactIsAhead", plainKeys := false, apart := false }
def FnExactIsAheadSaid : Prop := fnExactIsAheadRow.holds Try.pinned (OpenSpec.ofChange fnExactIsAheadSpec)

/-- ITS FALSE NEIGHBOUR: 'it returns false'. Refute it at one input. -/
def fnExactIsAheadWrong : ChangeSpec := { name := "fnExactIsAhead", fn := fun _ => fun
  | [d1, d2] => { results := [.lit (.bool false)], args := [d1, d2] }
  | _ => none }
def FnExactIsAheadWrongFalsely : Prop := fnExactIsAheadRow.holds Try.pinned (OpenSpec.ofChange fnExactIsAheadWrong)

/-- 'laws.FnExactIsNeverBehind': WHATEVER THE INPUT: true; the input reads as it did. -/
def fnExactIsNeverBehindSpec : ChangeSpec := { name := "fnExactIsNeverBehind", fn := fun _ => fun
  | [d1, d2] => { results := [.lit (.bool true)], args := [d1, d2] }
  | _ => none }
def fnExactIsNeverBehindRow : OpenClaim := { program := "ytlgiamgjimffnaa", sum := "692812c19f9f6fbcf9a8d12cb57d77fc509cbac3482d3ae8c893219b59fc3b6c", func := "loop.example/g01218/laws.FnExactIsNeverBehind", spec := "fnExactIsNeverBehind", plainKeys := false, apart := false }
def FnExactIsNeverBehindSaid : Prop := fnExactIsNeverBehindRow.holds Try.pinned (OpenSpec.ofChange fnExactIsNeverBehindSpec)

/-- ITS FALSE NEIGHBOUR: 'it returns false'. Refute it at one input. -/
def fnExactIsNeverBehindWrong : ChangeSpec := { name := "fnExactIsNeverBehind", fn := fun _ => fun
  | [d1, d2] => { results := [.lit (.bool false)], args := [d1, d2] }
  | _ => none }
def FnExactIsNeverBehindWrongFalsely : Prop := fnExactIsNeverBehindRow.holds Try.pinned (OpenSpec.ofChange fnExactIsNeverBehindWrong)

/-- 'laws.FnExactFirstNotAhead': WHATEVER THE INPUT: true; the input reads as it did. -/
def fnExactFirstNotAheadSpec : ChangeSpec := { name := "fnExactFirstNotAhead", fn := fun _ => fun
  | [d1, d2] => { results := [.lit (.bool true)], args := [d1, d2] }
  | _ => none }
def fnExactFirstNotAheadRow : OpenClaim := { program := "ytlgiamgjimffnaa", sum := "692812c19f9f6fbcf9a8d12cb57d77fc509cbac3482d3ae8c893219b59fc3b6c", func := "loop.example/g01218/laws.FnExactFirstNotAhead", spec := "fnExactFirstNotAhead", plainKeys := false, apart := false }
def FnExactFirstNotAheadSaid : Prop := fnExactFirstNotAheadRow.holds Try.pinned (OpenSpec.ofChange fnExactFirstNotAheadSpec)

/-- ITS FALSE NEIGHBOUR: 'it returns false'. Refute it at one input. -/
def fnExactFirstNotAheadWrong : ChangeSpec := { name := "fnExactFirstNotAhead", fn := fun _ => fun
  | [d1, d2] => { results := [.lit (.bool false)], args := [d1, d2] }
  | _ => none }
def FnExactFirstNotAheadWrongFalsely : Prop := fnExactFirstNotAheadRow.holds Try.pinned (OpenSpec.ofChange fnExactFirstNotAheadWrong)

/-- 'laws.FnExactFirstBehind': WHATEVER THE INPUT: true; the input reads as it did. -/
def fnExactFirstBehindSpec : ChangeSpec := { name := "fnExactFirstBehind", fn := fun _ => fun
  | [d1, d2] => { results := [.lit (.bool true)], args := [d1, d2] }
  | _ => none }
def fnExactFirstBehindRow : OpenClaim := { program := "ytlgiamgjimffnaa", sum := "692812c19f9f6fbcf9a8d12cb57d77fc509cbac3482d3ae8c893219b59fc3b6c", func := "loop.example/g01218/laws.FnExactFirstBehind", spec := "fnExactFirstBehind", plainKeys := false, apart := false }
def FnExactFirstBehindSaid : Prop := fnExactFirstBehindRow.holds Try.pinned (OpenSpec.ofChange fnExactFirstBehindSpec)

/-- ITS FALSE NEIGHBOUR: 'it returns false'. Refute it at one input. -/
def fnExactFirstBehindWrong : ChangeSpec := { name := "fnExactFirstBehind", fn := fun _ => fun
  | [d1, d2] => { results := [.lit (.bool false)], args := [d1, d2] }
  | _ => none }
def FnExactFirstBehindWrongFalsely : Prop := fnExactFirstBehindRow.holds Try.pinned (OpenSpec.ofChange fnExactFirstBehindWrong)

/-- 'laws.FnExactTiesOf': WHATEVER THE INPUT: true; the input reads as it did. -/
def fnExactTiesOfSpec : ChangeSpec := { name := "fnExactTiesOf", fn := fun _ => fun
  | [d1, d2] => { results := [.lit (.bool true)], args := [d1, d2] }
  | _ => none }
def fnExactTiesOfRow : OpenClaim := { program := "ytlgiamgjimffnaa", sum := "692812c19f9f6fbcf9a8d12cb57d77fc509cbac3482d3ae8c893219b59fc3b6c", func := "loop.example/g01218/laws.FnExactTiesOf", spec := "fnExactTiesOf", plainKeys := false, apart := false }
def FnExactTiesOfSaid : Prop := fnExactTiesOfRow.holds Try.pinned (OpenSpec.ofChange fnExactTiesOfSpec)

/-- ITS FALSE NEIGHBOUR: 'it returns false'. Refute it at one input. -/
def fnExactTiesOfWrong : ChangeSpec := { name := "fnExactTiesOf", fn := fun _ => fun
  | [d1, d2] => { results := [.lit (.bool false)], args := [d1, d2] }
  | _ => none }
def FnExactTiesOfWrongFalsely : Prop := fnExactTiesOfRow.holds Try.pinned (OpenSpec.ofChange fnExactTiesOfWrong)

/-- 'laws.FnExactRankNeverBehind': WHATEVER THE INPUT: true; the input reads as it did. -/
def fnExactRankNeverBehindSpec : ChangeSpec := { name := "fnExactRankNeverBehind", fn := fun _ => fun
  | [d1, d2] => { results := [.lit (.bool true)], args := [d1, d2] }
  | _ => none }
def fnExactRankNeverBehindRow : OpenClaim := { program := "ytlgiamgjimffnaa", sum := "692812c19f9f6fbcf9a8d12cb57d77fc509cbac3482d3ae8c893219b59fc3b6c", func := "loop.example/g01218/laws.FnExactRankNeverBehind", spec := "fnExactRankNeverBehind", inPlace := ["internal/bytealg.CountString", "internal/bytealg.IndexByteString", "internal/bytealg.IndexString"], recurses := true, named := ["internal/bytealg.MaxLen"], plainKeys := false, apart := false }
def FnExactRankNeverBehindSaid : Prop := fnExactRankNeverBehindRow.holds Try.pinned (OpenSpec.ofChange fnExactRankNeverBehindSpec)

/-- ITS FALSE NEIGHBOUR: 'it returns false'. Refute it at one input. -/
def fnExactRankNeverBehindWrong : ChangeSpec := { name := "fnExactRankNeverBehind", fn := fun _ => fun
  | [d1, d2] => { results := [.lit (.bool false)], args := [d1, d2] }
  | _ => none }
def FnExactRankNeverBehindWrongFalsely : Prop := fnExactRankNeverBehindRow.holds Try.pinned (OpenSpec.ofChange fnExactRankNeverBehindWrong)

/-- 'laws.FnExactLeadsOf': WHATEVER THE INPUT: true; the input reads as it did. -/
def fnExactLeadsOfSpec : ChangeSpec := { name := "fnExactLeadsOf", fn := fun _ => fun
  | [d] => { results := [.lit (.bool true)], args := [d] }
  | _ => none }
def fnExactLeadsOfRow : OpenClaim := { program := "ytlgiamgjimffnaa", sum := "692812c19f9f6fbcf9a8d12cb57d77fc509cbac3482d3ae8c893219b59fc3b6c", func := "loop.example/g01218/laws.FnExactLeadsOf", spec := "fnExactLeadsOf", plainKeys := false, apart := false }
def FnExactLeadsOfSaid : Prop := fnExactLeadsOfRow.holds Try.pinned (OpenSpec.ofChange fnExactLeadsOfSpec)

/-- ITS FALSE NEIGHBOUR: 'it returns false'. Refute it at one input. -/
def fnExactLeadsOfWrong : ChangeSpec := { name := "fnExactLeadsOf", fn := fun _ => fun
  | [d] => { results := [.lit (.bool false)], args := [d] }
  | _ => none }
def FnExactLeadsOfWrongFalsely : Prop := fnExactLeadsOfRow.holds Try.pinned (OpenSpec.ofChange fnExactLeadsOfWrong)

/-- 'laws.FnExactFirstAt': WHATEVER THE INPUT: true; the input reads as it did. -/
def fnExactFirstAtSpec : ChangeSpec := { name := "fnExactFirstAt", fn := fun _ => fun
  | [d1, d2] => { results := [.lit (.bool true)], args := [d1, d2] }
  | _ => none }
def fnExactFirstAtRow : OpenClaim := { program := "ytlgiamgjimffnaa", sum := "692812c19f9f6fbcf9a8d12cb57d77fc509cbac3482d3ae8c893219b59fc3b6c", func := "loop.example/g01218/laws.FnExactFirstAt", spec := "fnExactFirstAt", plainKeys := false, apart := false }
def FnExactFirstAtSaid : Prop := fnExactFirstAtRow.holds Try.pinned (OpenSpec.ofChange fnExactFirstAtSpec)

/-- ITS FALSE NEIGHBOUR: 'it returns false'. Refute it at one input. -/
def fnExactFirstAtWrong : ChangeSpec := { name := "fnExactFirstAt", fn := fun _ => fun
  | [d1, d2] => { results := [.lit (.bool false)], args := [d1, d2] }
  | _ => none }
def FnExactFirstAtWrongFalsely : Prop := fnExactFirstAtRow.holds Try.pinned (OpenSpec.ofChange fnExactFirstAtWrong)

/-- 'laws.FnExactLastAt': WHATEVER THE INPUT: true; the input reads as it did. -/
def fnExactLastAtSpec : ChangeSpec := { name := "fnExactLastAt", fn := fun _ => fun
  | [d1, d2] => { results := [.lit (.bool true)], args := [d1, d2] }
  | _ => none }
def fnExactLastAtRow : OpenClaim := { program := "ytlgiamgjimffnaa", sum := "692812c19f9f6fbcf9a8d12cb57d77fc509cbac3482d3ae8c893219b59fc3b6c", func := "loop.example/g01218/laws.FnExactLastAt", spec := "fnExactLastAt", unfollowed := true, recurses := true, plainKeys := false, apart := false }
def FnExactLastAtSaid : Prop := fnExactLastAtRow.holds Try.pinned (OpenSpec.ofChange fnExactLastAtSpec)

/-- ITS FALSE NEIGHBOUR: 'it returns false'. Refute it at one input. -/
def fnExactLastAtWrong : ChangeSpec := { name := "fnExactLastAt", fn := fun _ => fun
  | [d1, d2] => { results := [.lit (.bool false)], args := [d1, d2] }
  | _ => none }
def FnExactLastAtWrongFalsely : Prop := fnExactLastAtRow.holds Try.pinned (OpenSpec.ofChange fnExactLastAtWrong)

/-- 'laws.FnExactReflectBefore': WHATEVER THE INPUT: true; the input reads as it did. -/
def fnExactReflectBeforeSpec : ChangeSpec := { name := "fnExactReflectBefore", fn := fun _ => fun
  | [d1, d2] => { results := [.lit (.bool true)], args := [d1, d2] }
  | _ => none }
def fnExactReflectBeforeRow : OpenClaim := { program := "ytlgiamgjimffnaa", sum := "692812c19f9f6fbcf9a8d12cb57d77fc509cbac3482d3ae8c893219b59fc3b6c", func := "loop.example/g01218/laws.FnExactReflectBefore", spec := "fnExactReflectBefore", unfollowed := true, recurses := true, plainKeys := false, apart := false }
def FnExactReflectBeforeSaid : Prop := fnExactReflectBeforeRow.holds Try.pinned (OpenSpec.ofChange fnExactReflectBeforeSpec)

/-- ITS FALSE NEIGHBOUR: 'it returns false'. Refute it at one input. -/
def fnExactReflectBeforeWrong : ChangeSpec := { name := "fnExactReflectBefore", fn := fun _ => fun
  | [d1, d2] => { results := [.lit (.bool false)], args := [d1, d2] }
  | _ => none }
def FnExactReflectBeforeWrongFalsely : Prop := fnExactReflectBeforeRow.holds Try.pinned (OpenSpec.ofChange fnExactReflectBeforeWrong)

/-- 'laws.FnExactReflectBehind': WHATEVER THE INPUT: true; the input reads as it did. -/
def fnExactReflectBehindSpec : ChangeSpec := { name := "fnExactReflectBehind", fn := fun _ => fun
  | [d1, d2] => { results := [.lit (.bool true)], args := [d1, d2] }
  | _ => none }
def fnExactReflectBehindRow : OpenClaim := { program := "ytlgiamgjimffnaa", sum := "692812c19f9f6fbcf9a8d12cb57d77fc509cbac3482d3ae8c893219b59fc3b6c", func := "loop.example/g01218/laws.FnExactReflectBehind", spec := "fnExactReflectBehind", unfollowed := true, recurses := true, plainKeys := false, apart := false }
def FnExactReflectBehindSaid : Prop := fnExactReflectBehindRow.holds Try.pinned (OpenSpec.ofChange fnExactReflectBehindSpec)

/-- ITS FALSE NEIGHBOUR: 'it returns false'. Refute it at one input. -/
def fnExactReflectBehindWrong : ChangeSpec := { name := "fnExactReflectBehind", fn := fun _ => fun
  | [d1, d2] => { results := [.lit (.bool false)], args := [d1, d2] }
  | _ => none }
def FnExactReflectBehindWrongFalsely : Prop := fnExactReflectBehindRow.holds Try.pinned (OpenSpec.ofChange fnExactReflectBehindWrong)

/-- 'laws.FnExactCountTouching': WHATEVER THE INPUT: true; the input reads as it did. -/
def fnExactCountTouchingSpec : ChangeSpec := { name := "fnExactCountTouching", fn := fun _ => fun
  | [d1, d2, d3] => { results := [.lit (.bool true)], args := [d1, d2, d3] }
  | _ => none }
def fnExactCountTouchingRow : OpenClaim := { program := "ytlgiamgjimffnaa", sum := "692812c19f9f6fbcf9a8d12cb57d77fc509cbac3482d3ae8c893219b59fc3b6c", func := "loop.example/g01218/laws.FnExactCountTouching", spec := "fnExactCountTouching", plainKeys := false, apart := false }
def FnExactCountTouchingSaid : Prop := fnExactCountTouchingRow.holds Try.pinned (OpenSpec.ofChange fnExactCountTouchingSpec)

/-- ITS FALSE NEIGHBOUR: 'it returns false'. Refute it at one input. -/
def fnExactCountTouchingWrong : ChangeSpec := { name := "fnExactCountTouching", fn := fun _ => fun
  | [d1, d2, d3] => { results := [.lit (.bool false)], args := [d1, d2, d3] }
  | _ => none }
def FnExactCountTouchingWrongFalsely : Prop := fnExactCountTouchingRow.holds Try.pinned (OpenSpec.ofChange fnExactCountTouchingWrong)

/-- 'laws.FnExactCountAbove': WHATEVER THE INPUT: true; the input reads as it did. -/
def fnExactCountAboveSpec : ChangeSpec := { name := "fnExactCountAbove", fn := fun _ => fun
  | [d1, d2, d3] => { results := [.lit (.bool true)], args := [d1, d2, d3] }
  | _ => none }
def fnExactCountAboveRow : OpenClaim := { program := "ytlgiamgjimffnaa", sum := "692812c19f9f6fbcf9a8d12cb57d77fc509cbac3482d3ae8c893219b59fc3b6c", func := "loop.example/g01218/laws.FnExactCountAbove", spec := "fnExactCountAbove", plainKeys := false, apart := false }
def FnExactCountAboveSaid : Prop := fnExactCountAboveRow.holds Try.pinned (OpenSpec.ofChange fnExactCountAboveSpec)

/-- ITS FALSE NEIGHBOUR: 'it returns false'. Refute it at one input. -/
def fnExactCountAboveWrong : ChangeSpec := { name := "fnExactCountAbove", fn := fun _ => fun
  | [d1, d2, d3] => { results := [.lit (.bool false)], args := [d1, d2, d3] }
  | _ => none }
def FnExactCountAboveWrongFalsely : Prop := fnExactCountAboveRow.holds Try.pinned (OpenSpec.ofChange fnExactCountAboveWrong)

/-- 'laws.FnExactCountHighest': WHATEVER THE INPUT: true; the input reads as it did. -/
def fnExactCountHighestSpec : ChangeSpec := { name := "fnExactCountHighest", fn := fun _ => fun
  | [d1, d2, d3] => { results := [.lit (.bool true)], args := [d1, d2, d3] }
  | _ => none }
def fnExactCountHighestRow : OpenClaim := { program := "ytlgiamgjimffnaa", sum := "692812c19f9f6fbcf9a8d12cb57d77fc509cbac3482d3ae8c893219b59fc3b6c", func := "loop.example/g01218/laws.FnExactCountHighest", spec := "fnExactCountHighest", plainKeys := false, apart := false }
def FnExactCountHighestSaid : Prop := fnExactCountHighestRow.holds Try.pinned (OpenSpec.ofChange fnExactCountHighestSpec)

/-- ITS FALSE NEIGHBOUR: 'it returns false'. Refute it at one input. -/
def fnExactCountHighestWrong : ChangeSpec := { name := "fnExactCountHighest", fn := fun _ => fun
  | [d1, d2, d3] => { results := [.lit (.bool false)], args := [d1, d2, d3] }
  | _ => none }
def FnExactCountHighestWrongFalsely : Prop := fnExactCountHighestRow.holds Try.pinned (OpenSpec.ofChange fnExactCountHighestWrong)

/-- 'laws.FnExactIsBetween': WHATEVER THE INPUT: true; the input reads as it did. -/
def fnExactIsBetweenSpec : ChangeSpec := { name := "fnExactIsBetween", fn := fun _ => fun
  | [d1, d2, d3] => { results := [.lit (.bool true)], args := [d1, d2, d3] }
  | _ => none }
def fnExactIsBetweenRow : OpenClaim := { program := "ytlgiamgjimffnaa", sum := "692812c19f9f6fbcf9a8d12cb57d77fc509cbac3482d3ae8c893219b59fc3b6c", func := "loop.example/g01218/laws.FnExactIsBetween", spec := "fnExactIsBetween", plainKeys := false, apart := false }
def FnExactIsBetweenSaid : Prop := fnExactIsBetweenRow.holds Try.pinned (OpenSpec.ofChange fnExactIsBetweenSpec)

/-- ITS FALSE NEIGHBOUR: 'it returns false'. Refute it at one input. -/
def fnExactIsBetweenWrong : ChangeSpec := { name := "fnExactIsBetween", fn := fun _ => fun
  | [d1, d2, d3] => { results := [.lit (.bool false)], args := [d1, d2, d3] }
  | _ => none }
def FnExactIsBetweenWrongFalsely : Prop := fnExactIsBetweenRow.holds Try.pinned (OpenSpec.ofChange fnExactIsBetweenWrong)

/-- 'laws.FnExactCountBetween': WHATEVER THE INPUT: true; the input reads as it did. -/
def fnExactCountBetweenSpec : ChangeSpec := { name := "fnExactCountBetween", fn := fun _ => fun
  | [d1, d2, d3, d4] => { results := [.lit (.bool true)], args := [d1, d2, d3, d4] }
  | _ => none }
def fnExactCountBetweenRow : OpenClaim := { program := "ytlgiamgjimffnaa", sum := "692812c19f9f6fbcf9a8d12cb57d77fc509cbac3482d3ae8c893219b59fc3b6c", func := "loop.example/g01218/laws.FnExactCountBetween", spec := "fnExactCountBetween", plainKeys := false, apart := false }
def FnExactCountBetweenSaid : Prop := fnExactCountBetweenRow.holds Try.pinned (OpenSpec.ofChange fnExactCountBetweenSpec)

/-- ITS FALSE NEIGHBOUR: 'it returns false'. Refute it at one input. -/
def fnExactCountBetweenWrong : ChangeSpec := { name := "fnExactCountBetween", fn := fun _ => fun
  | [d1, d2, d3, d4] => { results := [.lit (.bool false)], args := [d1, d2, d3, d4] }
  | _ => none }
def FnExactCountBetweenWrongFalsely : Prop := fnExactCountBetweenRow.holds Try.pinned (OpenSpec.ofChange fnExactCountBetweenWrong)

/-- 'laws.FnExactAllBetween': WHATEVER THE INPUT: true; the input reads as it did. -/
def fnExactAllBetweenSpec : ChangeSpec := { name := "fnExactAllBetween", fn := fun _ => fun
  | [d1, d2, d3, d4] => { results := [.lit (.bool true)], args := [d1, d2, d3, d4] }
  | _ => none }
def fnExactAllBetweenRow : OpenClaim := { program := "ytlgiamgjimffnaa", sum := "692812c19f9f6fbcf9a8d12cb57d77fc509cbac3482d3ae8c893219b59fc3b6c", func := "loop.example/g01218/laws.FnExactAllBetween", spec := "fnExactAllBetween", recurses := true, plainKeys := false, apart := false }
def FnExactAllBetweenSaid : Prop := fnExactAllBetweenRow.holds Try.pinned (OpenSpec.ofChange fnExactAllBetweenSpec)

/-- ITS FALSE NEIGHBOUR: 'it returns false'. Refute it at one input. -/
def fnExactAllBetweenWrong : ChangeSpec := { name := "fnExactAllBetween", fn := fun _ => fun
  | [d1, d2, d3, d4] => { results := [.lit (.bool false)], args := [d1, d2, d3, d4] }
  | _ => none }
def FnExactAllBetweenWrongFalsely : Prop := fnExactAllBetweenRow.holds Try.pinned (OpenSpec.ofChange fnExactAllBetweenWrong)

/-- 'laws.FnExactCountBothTouched': WHATEVER THE INPUT: true; the input reads as it did. -/
def fnExactCountBothTouchedSpec : ChangeSpec := { name := "fnExactCountBothTouched", fn := fun _ => fun
  | [d1, d2, d3, d4] => { results := [.lit (.bool true)], args := [d1, d2, d3, d4] }
  | _ => none }
def fnExactCountBothTouchedRow : OpenClaim := { program := "ytlgiamgjimffnaa", sum := "692812c19f9f6fbcf9a8d12cb57d77fc509cbac3482d3ae8c893219b59fc3b6c", func := "loop.example/g01218/laws.FnExactCountBothTouched", spec := "fnExactCountBothTouched", plainKeys := false, apart := false }
def FnExactCountBothTouchedSaid : Prop := fnExactCountBothTouchedRow.holds Try.pinned (OpenSpec.ofChange fnExactCountBothTouchedSpec)

/-- ITS FALSE NEIGHBOUR: 'it returns false'. Refute it at one input. -/
def fnExactCountBothTouchedWrong : ChangeSpec := { name := "fnExactCountBothTouched", fn := fun _ => fun
  | [d1, d2, d3, d4] => { results := [.lit (.bool false)], args := [d1, d2, d3, d4] }
  | _ => none }
def FnExactCountBothTouchedWrongFalsely : Prop := fnExactCountBothTouchedRow.holds Try.pinned (OpenSpec.ofChange fnExactCountBothTouchedWrong)

/-- 'laws.FnExactTouchText': WHATEVER THE INPUT: true; the input reads as it did. -/
def fnExactTouchTextSpec : ChangeSpec := { name := "fnExactTouchText", fn := fun _ => fun
  | [d1, d2, d3] => { results := [.lit (.bool true)], args := [d1, d2, d3] }
  | _ => none }
def fnExactTouchTextRow : OpenClaim := { program := "ytlgiamgjimffnaa", sum := "692812c19f9f6fbcf9a8d12cb57d77fc509cbac3482d3ae8c893219b59fc3b6c", func := "loop.example/g01218/laws.FnExactTouchText", spec := "fnExactTouchText", plainKeys := false, apart := false }
def FnExactTouchTextSaid : Prop := fnExactTouchTextRow.holds Try.pinned (OpenSpec.ofChange fnExactTouchTextSpec)

/-- ITS FALSE NEIGHBOUR: 'it returns false'. Refute it at one input. -/
def fnExactTouchTextWrong : ChangeSpec := { name := "fnExactTouchText", fn := fun _ => fun
  | [d1, d2, d3] => { results := [.lit (.bool false)], args := [d1, d2, d3] }
  | _ => none }
def FnExactTouchTextWrongFalsely : Prop := fnExactTouchTextRow.holds Try.pinned (OpenSpec.ofChange fnExactTouchTextWrong)

/-- 'laws.FnExactCountFirstPassage': WHATEVER THE INPUT: true; the input reads as it did. -/
def fnExactCountFirstPassageSpec : ChangeSpec := { name := "fnExactCountFirstPassage", fn := fun _ => fun
  | [d1, d2] => { results := [.lit (.bool true)], args := [d1, d2] }
  | _ => none }
def fnExactCountFirstPassageRow : OpenClaim := { program := "ytlgiamgjimffnaa", sum := "692812c19f9f6fbcf9a8d12cb57d77fc509cbac3482d3ae8c893219b59fc3b6c", func := "loop.example/g01218/laws.FnExactCountFirstPassage", spec := "fnExactCountFirstPassage", plainKeys := false, apart := false }
def FnExactCountFirstPassageSaid : Prop := fnExactCountFirstPassageRow.holds Try.pinned (OpenSpec.ofChange fnExactCountFirstPassageSpec)

/-- ITS FALSE NEIGHBOUR: 'it returns false'. Refute it at one input. -/
def fnExactCountFirstPassageWrong : ChangeSpec := { name := "fnExactCountFirstPassage", fn := fun _ => fun
  | [d1, d2] => { results := [.lit (.bool false)], args := [d1, d2] }
  | _ => none }
def FnExactCountFirstPassageWrongFalsely : Prop := fnExactCountFirstPassageRow.holds Try.pinned (OpenSpec.ofChange fnExactCountFirstPassageWrong)

/-- 'laws.FnExactPairOf': WHATEVER THE INPUT: true; the input reads as it did. -/
def fnExactPairOfSpec : ChangeSpec := { name := "fnExactPairOf", fn := fun _ => fun
  | [d] => { results := [.lit (.bool true)], args := [d] }
  | _ => none }
def fnExactPairOfRow : OpenClaim := { program := "ytlgiamgjimffnaa", sum := "692812c19f9f6fbcf9a8d12cb57d77fc509cbac3482d3ae8c893219b59fc3b6c", func := "loop.example/g01218/laws.FnExactPairOf", spec := "fnExactPairOf", unfollowed := true, recurses := true, plainKeys := false, apart := false }
def FnExactPairOfSaid : Prop := fnExactPairOfRow.holds Try.pinned (OpenSpec.ofChange fnExactPairOfSpec)

/-- ITS FALSE NEIGHBOUR: 'it returns false'. Refute it at one input. -/
def fnExactPairOfWrong : ChangeSpec := { name := "fnExactPairOf", fn := fun _ => fun
  | [d] => { results := [.lit (.bool false)], args := [d] }
  | _ => none }
def FnExactPairOfWrongFalsely : Prop := fnExactPairOfRow.holds Try.pinned (OpenSpec.ofChange fnExactPairOfWrong)

/-- 'laws.FnExactCountByHighest': WHATEVER THE INPUT: true; the input reads as it did. -/
def fnExactCountByHighestSpec : ChangeSpec := { name := "fnExactCountByHighest", fn := fun _ => fun
  | [d] => { results := [.lit (.bool true)], args := [d] }
  | _ => none }
def fnExactCountByHighestRow : OpenClaim := { program := "ytlgiamgjimffnaa", sum := "692812c19f9f6fbcf9a8d12cb57d77fc509cbac3482d3ae8c893219b59fc3b6c", func := "loop.example/g01218/laws.FnExactCountByHighest", spec := "fnExactCountByHighest", plainKeys := false, apart := false }
def FnExactCountByHighestSaid : Prop := fnExactCountByHighestRow.holds Try.pinned (OpenSpec.ofChange fnExactCountByHighestSpec)

/-- ITS FALSE NEIGHBOUR: 'it returns false'. Refute it at one input. -/
def fnExactCountByHighestWrong : ChangeSpec := { name := "fnExactCountByHighest", fn := fun _ => fun
  | [d] => { results := [.lit (.bool false)], args := [d] }
  | _ => none }
def FnExactCountByHighestWrongFalsely : Prop := fnExactCountByHighestRow.holds Try.pinned (OpenSpec.ofChange fnExactCountByHighestWrong)

/- THE SECOND FORM. 'bulk': how many values and letters a reading holds, each counted each time it is reached (what is shared counts as often as it is met; a slice's spare places count too). A statement '..UptoSaid' is the law's where the arguments, and the package variables that the reading takes, are together of bulk at most 1048576: NARROWER than '..Said'. Prove '..Said' where nothing that the law and all that it calls make is longer than what came in: it says more and counts as full. Else prove '..UptoSaid'. A law counts once. -/
mutual
def uptoBulk {H : Type} : DataW H → Nat
  | .lit (.string bytes) => bytes.length + 1
  | .lit _ => 1
  | .nil => 1
  | .ptr d => uptoBulk d + 1
  | .slice elems spare => uptoBulkAll elems + uptoBulkAll spare + 1
  | .agg parts => uptoBulkAll parts + 1
  | .iface _ d => uptoBulk d + 1
  | .map entries => uptoBulkEntries entries + 1
  | .held _ => 1
def uptoBulkAll {H : Type} : List (DataW H) → Nat
  | [] => 0
  | d :: r => uptoBulk d + uptoBulkAll r
def uptoBulkEntries {H : Type} : List (Lit × DataW H) → Nat
  | [] => 0
  | x :: r => uptoBulkEntry x + uptoBulkEntries r
def uptoBulkEntry {H : Type} : Lit × DataW H → Nat
  | (.string bytes, d) => bytes.length + uptoBulk d + 1
  | (_, d) => uptoBulk d + 1
 end
def uptoSmall : (H : Type) → List (DataW H) → Bool := fun _ ds => decide (uptoBulkAll ds ≤ 1048576)
def OpenSpec.upto (s : _root_.Go.ChangeSpec) : _root_.Go.OpenSpec := { _root_.Go.OpenSpec.ofChange s with cond := some uptoSmall }

/-- 'laws.FnExactIsAhead', WHERE WHAT IT READS IS OF BULK AT MOST 1048576: true; the input reads as it did. -/
def fnExactIsAheadUptoRow : OpenClaim := { program := "ytlgiamgjimffnaa", sum := "692812c19f9f6fbcf9a8d12cb57d77fc509cbac3482d3ae8c893219b59fc3b6c", func := "loop.example/g01218/laws.FnExactIsAhead", spec := "fnExactIsAhead", plainKeys := false, apart := false, narrowed := true }
def FnExactIsAheadUptoSaid : Prop := fnExactIsAheadUptoRow.holds Try.pinned (OpenSpec.upto fnExactIsAheadSpec)

/-- 'laws.FnExactIsNeverBehind', WHERE WHAT IT READS IS OF BULK AT MOST 1048576: true; the input reads as it did. -/
def fnExactIsNeverBehindUptoRow : OpenClaim := { program := "ytlgiamgjimffnaa", sum := "692812c19f9f6fbcf9a8d12cb57d77fc509cbac3482d3ae8c893219b59fc3b6c", func := "loop.example/g01218/laws.FnExactIsNeverBehind", spec := "fnExactIsNeverBehind", plainKeys := false, apart := false, narrowed := true }
def FnExactIsNeverBehindUptoSaid : Prop := fnExactIsNeverBehindUptoRow.holds Try.pinned (OpenSpec.upto fnExactIsNeverBehindSpec)

/-- 'laws.FnExactFirstNotAhead', WHERE WHAT IT READS IS OF BULK AT MOST 1048576: true; the input reads as it did. -/
def fnExactFirstNotAheadUptoRow : OpenClaim := { program := "ytlgiamgjimffnaa", sum := "692812c19f9f6fbcf9a8d12cb57d77fc509cbac3482d3ae8c893219b59fc3b6c", func := "loop.example/g01218/laws.FnExactFirstNotAhead", spec := "fnExactFirstNotAhead", plainKeys := false, apart := false, narrowed := true }
def FnExactFirstNotAheadUptoSaid : Prop := fnExactFirstNotAheadUptoRow.holds Try.pinned (OpenSpec.upto fnExactFirstNotAheadSpec)

/-- 'laws.FnExactFirstBehind', WHERE WHAT IT READS IS OF BULK AT MOST 1048576: true; the input reads as it did. -/
def fnExactFirstBehindUptoRow : OpenClaim := { program := "ytlgiamgjimffnaa", sum := "692812c19f9f6fbcf9a8d12cb57d77fc509cbac3482d3ae8c893219b59fc3b6c", func := "loop.example/g01218/laws.FnExactFirstBehind", spec := "fnExactFirstBehind", plainKeys := false, apart := false, narrowed := true }
def FnExactFirstBehindUptoSaid : Prop := fnExactFirstBehindUptoRow.holds Try.pinned (OpenSpec.upto fnExactFirstBehindSpec)

/-- 'laws.FnExactTiesOf', WHERE WHAT IT READS IS OF BULK AT MOST 1048576: true; the input reads as it did. -/
def fnExactTiesOfUptoRow : OpenClaim := { program := "ytlgiamgjimffnaa", sum := "692812c19f9f6fbcf9a8d12cb57d77fc509cbac3482d3ae8c893219b59fc3b6c", func := "loop.example/g01218/laws.FnExactTiesOf", spec := "fnExactTiesOf", plainKeys := false, apart := false, narrowed := true }
def FnExactTiesOfUptoSaid : Prop := fnExactTiesOfUptoRow.holds Try.pinned (OpenSpec.upto fnExactTiesOfSpec)

/-- 'laws.FnExactRankNeverBehind', WHERE WHAT IT READS IS OF BULK AT MOST 1048576: true; the input reads as it did. -/
def fnExactRankNeverBehindUptoRow : OpenClaim := { program := "ytlgiamgjimffnaa", sum := "692812c19f9f6fbcf9a8d12cb57d77fc509cbac3482d3ae8c893219b59fc3b6c", func := "loop.example/g01218/laws.FnExactRankNeverBehind", spec := "fnExactRankNeverBehind", inPlace := ["internal/bytealg.CountString", "internal/bytealg.IndexByteString", "internal/bytealg.IndexString"], recurses := true, named := ["internal/bytealg.MaxLen"], plainKeys := false, apart := false, narrowed := true }
def FnExactRankNeverBehindUptoSaid : Prop := fnExactRankNeverBehindUptoRow.holds Try.pinned (OpenSpec.upto fnExactRankNeverBehindSpec)

/-- 'laws.FnExactLeadsOf', WHERE WHAT IT READS IS OF BULK AT MOST 1048576: true; the input reads as it did. -/
def fnExactLeadsOfUptoRow : OpenClaim := { program := "ytlgiamgjimffnaa", sum := "692812c19f9f6fbcf9a8d12cb57d77fc509cbac3482d3ae8c893219b59fc3b6c", func := "loop.example/g01218/laws.FnExactLeadsOf", spec := "fnExactLeadsOf", plainKeys := false, apart := false, narrowed := true }
def FnExactLeadsOfUptoSaid : Prop := fnExactLeadsOfUptoRow.holds Try.pinned (OpenSpec.upto fnExactLeadsOfSpec)

/-- 'laws.FnExactFirstAt', WHERE WHAT IT READS IS OF BULK AT MOST 1048576: true; the input reads as it did. -/
def fnExactFirstAtUptoRow : OpenClaim := { program := "ytlgiamgjimffnaa", sum := "692812c19f9f6fbcf9a8d12cb57d77fc509cbac3482d3ae8c893219b59fc3b6c", func := "loop.example/g01218/laws.FnExactFirstAt", spec := "fnExactFirstAt", plainKeys := false, apart := false, narrowed := true }
def FnExactFirstAtUptoSaid : Prop := fnExactFirstAtUptoRow.holds Try.pinned (OpenSpec.upto fnExactFirstAtSpec)

/-- 'laws.FnExactLastAt', WHERE WHAT IT READS IS OF BULK AT MOST 1048576: true; the input reads as it did. -/
def fnExactLastAtUptoRow : OpenClaim := { program := "ytlgiamgjimffnaa", sum := "692812c19f9f6fbcf9a8d12cb57d77fc509cbac3482d3ae8c893219b59fc3b6c", func := "loop.example/g01218/laws.FnExactLastAt", spec := "fnExactLastAt", unfollowed := true, recurses := true, plainKeys := false, apart := false, narrowed := true }
def FnExactLastAtUptoSaid : Prop := fnExactLastAtUptoRow.holds Try.pinned (OpenSpec.upto fnExactLastAtSpec)

/-- 'laws.FnExactReflectBefore', WHERE WHAT IT READS IS OF BULK AT MOST 1048576: true; the input reads as it did. -/
def fnExactReflectBeforeUptoRow : OpenClaim := { program := "ytlgiamgjimffnaa", sum := "692812c19f9f6fbcf9a8d12cb57d77fc509cbac3482d3ae8c893219b59fc3b6c", func := "loop.example/g01218/laws.FnExactReflectBefore", spec := "fnExactReflectBefore", unfollowed := true, recurses := true, plainKeys := false, apart := false, narrowed := true }
def FnExactReflectBeforeUptoSaid : Prop := fnExactReflectBeforeUptoRow.holds Try.pinned (OpenSpec.upto fnExactReflectBeforeSpec)

/-- 'laws.FnExactReflectBehind', WHERE WHAT IT READS IS OF BULK AT MOST 1048576: true; the input reads as it did. -/
def fnExactReflectBehindUptoRow : OpenClaim := { program := "ytlgiamgjimffnaa", sum := "692812c19f9f6fbcf9a8d12cb57d77fc509cbac3482d3ae8c893219b59fc3b6c", func := "loop.example/g01218/laws.FnExactReflectBehind", spec := "fnExactReflectBehind", unfollowed := true, recurses := true, plainKeys := false, apart := false, narrowed := true }
def FnExactReflectBehindUptoSaid : Prop := fnExactReflectBehindUptoRow.holds Try.pinned (OpenSpec.upto fnExactReflectBehindSpec)

/-- 'laws.FnExactCountTouching', WHERE WHAT IT READS IS OF BULK AT MOST 1048576: true; the input reads as it did. -/
def fnExactCountTouchingUptoRow : OpenClaim := { program := "ytlgiamgjimffnaa", sum := "692812c19f9f6fbcf9a8d12cb57d77fc509cbac3482d3ae8c893219b59fc3b6c", func := "loop.example/g01218/laws.FnExactCountTouching", spec := "fnExactCountTouching", plainKeys := false, apart := false, narrowed := true }
def FnExactCountTouchingUptoSaid : Prop := fnExactCountTouchingUptoRow.holds Try.pinned (OpenSpec.upto fnExactCountTouchingSpec)

/-- 'laws.FnExactCountAbove', WHERE WHAT IT READS IS OF BULK AT MOST 1048576: true; the input reads as it did. -/
def fnExactCountAboveUptoRow : OpenClaim := { program := "ytlgiamgjimffnaa", sum := "692812c19f9f6fbcf9a8d12cb57d77fc509cbac3482d3ae8c893219b59fc3b6c", func := "loop.example/g01218/laws.FnExactCountAbove", spec := "fnExactCountAbove", plainKeys := false, apart := false, narrowed := true }
def FnExactCountAboveUptoSaid : Prop := fnExactCountAboveUptoRow.holds Try.pinned (OpenSpec.upto fnExactCountAboveSpec)

/-- 'laws.FnExactCountHighest', WHERE WHAT IT READS IS OF BULK AT MOST 1048576: true; the input reads as it did. -/
def fnExactCountHighestUptoRow : OpenClaim := { program := "ytlgiamgjimffnaa", sum := "692812c19f9f6fbcf9a8d12cb57d77fc509cbac3482d3ae8c893219b59fc3b6c", func := "loop.example/g01218/laws.FnExactCountHighest", spec := "fnExactCountHighest", plainKeys := false, apart := false, narrowed := true }
def FnExactCountHighestUptoSaid : Prop := fnExactCountHighestUptoRow.holds Try.pinned (OpenSpec.upto fnExactCountHighestSpec)

/-- 'laws.FnExactIsBetween', WHERE WHAT IT READS IS OF BULK AT MOST 1048576: true; the input reads as it did. -/
def fnExactIsBetweenUptoRow : OpenClaim := { program := "ytlgiamgjimffnaa", sum := "692812c19f9f6fbcf9a8d12cb57d77fc509cbac3482d3ae8c893219b59fc3b6c", func := "loop.example/g01218/laws.FnExactIsBetween", spec := "fnExactIsBetween", plainKeys := false, apart := false, narrowed := true }
def FnExactIsBetweenUptoSaid : Prop := fnExactIsBetweenUptoRow.holds Try.pinned (OpenSpec.upto fnExactIsBetweenSpec)

/-- 'laws.FnExactCountBetween', WHERE WHAT IT READS IS OF BULK AT MOST 1048576: true; the input reads as it did. -/
def fnExactCountBetweenUptoRow : OpenClaim := { program := "ytlgiamgjimffnaa", sum := "692812c19f9f6fbcf9a8d12cb57d77fc509cbac3482d3ae8c893219b59fc3b6c", func := "loop.example/g01218/laws.FnExactCountBetween", spec := "fnExactCountBetween", plainKeys := false, apart := false, narrowed := true }
def FnExactCountBetweenUptoSaid : Prop := fnExactCountBetweenUptoRow.holds Try.pinned (OpenSpec.upto fnExactCountBetweenSpec)

/-- 'laws.FnExactAllBetween', WHERE WHAT IT READS IS OF BULK AT MOST 1048576: true; the input reads as it did. -/
def fnExactAllBetweenUptoRow : OpenClaim := { program := "ytlgiamgjimffnaa", sum := "692812c19f9f6fbcf9a8d12cb57d77fc509cbac3482d3ae8c893219b59fc3b6c", func := "loop.example/g01218/laws.FnExactAllBetween", spec := "fnExactAllBetween", recurses := true, plainKeys := false, apart := false, narrowed := true }
def FnExactAllBetweenUptoSaid : Prop := fnExactAllBetweenUptoRow.holds Try.pinned (OpenSpec.upto fnExactAllBetweenSpec)

/-- 'laws.FnExactCountBothTouched', WHERE WHAT IT READS IS OF BULK AT MOST 1048576: true; the input reads as it did. -/
def fnExactCountBothTouchedUptoRow : OpenClaim := { program := "ytlgiamgjimffnaa", sum := "692812c19f9f6fbcf9a8d12cb57d77fc509cbac3482d3ae8c893219b59fc3b6c", func := "loop.example/g01218/laws.FnExactCountBothTouched", spec := "fnExactCountBothTouched", plainKeys := false, apart := false, narrowed := true }
def FnExactCountBothTouchedUptoSaid : Prop := fnExactCountBothTouchedUptoRow.holds Try.pinned (OpenSpec.upto fnExactCountBothTouchedSpec)

/-- 'laws.FnExactTouchText', WHERE WHAT IT READS IS OF BULK AT MOST 1048576: true; the input reads as it did. -/
def fnExactTouchTextUptoRow : OpenClaim := { program := "ytlgiamgjimffnaa", sum := "692812c19f9f6fbcf9a8d12cb57d77fc509cbac3482d3ae8c893219b59fc3b6c", func := "loop.example/g01218/laws.FnExactTouchText", spec := "fnExactTouchText", plainKeys := false, apart := false, narrowed := true }
def FnExactTouchTextUptoSaid : Prop := fnExactTouchTextUptoRow.holds Try.pinned (OpenSpec.upto fnExactTouchTextSpec)

/-- 'laws.FnExactCountFirstPassage', WHERE WHAT IT READS IS OF BULK AT MOST 1048576: true; the input reads as it did. -/
def fnExactCountFirstPassageUptoRow : OpenClaim := { program := "ytlgiamgjimffnaa", sum := "692812c19f9f6fbcf9a8d12cb57d77fc509cbac3482d3ae8c893219b59fc3b6c", func := "loop.example/g01218/laws.FnExactCountFirstPassage", spec := "fnExactCountFirstPassage", plainKeys := false, apart := false, narrowed := true }
def FnExactCountFirstPassageUptoSaid : Prop := fnExactCountFirstPassageUptoRow.holds Try.pinned (OpenSpec.upto fnExactCountFirstPassageSpec)

/-- 'laws.FnExactPairOf', WHERE WHAT IT READS IS OF BULK AT MOST 1048576: true; the input reads as it did. -/
def fnExactPairOfUptoRow : OpenClaim := { program := "ytlgiamgjimffnaa", sum := "692812c19f9f6fbcf9a8d12cb57d77fc509cbac3482d3ae8c893219b59fc3b6c", func := "loop.example/g01218/laws.FnExactPairOf", spec := "fnExactPairOf", unfollowed := true, recurses := true, plainKeys := false, apart := false, narrowed := true }
def FnExactPairOfUptoSaid : Prop := fnExactPairOfUptoRow.holds Try.pinned (OpenSpec.upto fnExactPairOfSpec)

/-- 'laws.FnExactCountByHighest', WHERE WHAT IT READS IS OF BULK AT MOST 1048576: true; the input reads as it did. -/
def fnExactCountByHighestUptoRow : OpenClaim := { program := "ytlgiamgjimffnaa", sum := "692812c19f9f6fbcf9a8d12cb57d77fc509cbac3482d3ae8c893219b59fc3b6c", func := "loop.example/g01218/laws.FnExactCountByHighest", spec := "fnExactCountByHighest", plainKeys := false, apart := false, narrowed := true }
def FnExactCountByHighestUptoSaid : Prop := fnExactCountByHighestUptoRow.holds Try.pinned (OpenSpec.upto fnExactCountByHighestSpec)

end Rows
end Go.Proofs.Ytlgiamgjimffnaa
