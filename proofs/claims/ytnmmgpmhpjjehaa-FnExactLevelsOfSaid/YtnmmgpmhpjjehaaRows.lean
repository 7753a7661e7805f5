/-
  No cell of these rows narrows 'for every input' (looked for: loops, veiled, ifaces, maps, wideKeys, modest, calm, conditions, laid).
  DERIVED. THE GIVEN ROWS OF THIS SEAT. 17 by the template 'for every input the law returns true; each argument reads behind the call as it read before'; 0 by the template 'total and deterministic' (their statements: YtnmmgpmhpjjehaaTotals.lean).
  GIVEN WITH THE SEED: the statements are not yours to turn. If you find one false, say at which input.
  Laid BY PROGRAM, IN A SANDBOX (cutbox-rows.mjs): the forced cells as the released guide's own fill.sh prints them over the translation c850039cb4dd04df… (all of the seat's roots in one cut). By AI agents, Wed Nov 11 2026. No macro, syntax, notation, axiom, sorry.
-/
import Derived.Test.YtnmmgpmhpjjehaaChecked
import GoSem.Claim
import GoSem.ClaimJoined
import GoSem.ClaimMapViews
import Derived.JoinedTies
import Derived.KernelRfl
namespace Go.Proofs.Ytnmmgpmhpjjehaa
/- THE CELL 'sum', in the pinned program and in every row, IS THE sha256 OF THE DUMP (.gsa) THAT YtnmmgpmhpjjehaaProg.lean LOADS. Nothing in Lean hashes anything: it is a label: what it is worth is what the hold of that sum in a sandbox is worth. -/
noncomputable def Try.pinned : Pinned := { name := "ytnmmgpmhpjjehaa", sum := "c850039cb4dd04dfda0e2aa13bb4d0e3f5e7a90e03dc1298c6039e3140c4cae1", checked := Try.checked }
namespace Rows
def none {H : Type} : Left H := { results := [], args := [] }

/-- 'laws.FnGridsCounted': WHATEVER THE INPUT: true; the input reads as it did. -/
def fnGridsCountedSpec : ChangeSpec := { name := "fnGridsCounted", fn := fun _ => fun
  | [d1, d2] => { results := [.lit (.bool true)], args := [d1, d2] }
  | _ => none }
def fnGridsCountedRow : OpenClaim := { program := "ytnmmgpmhpjjehaa", sum := "c850039cb4dd04dfda0e2aa13bb4d0e3f5e7a90e03dc1298c6039e3140c4cae1", func := "loop.example/g01218/laws.FnGridsCounted", spec := "fnGridsCounted", unfollowed := true, recurses := true, apart := false }
def FnGridsCountedSaid : Prop := fnGridsCountedRow.holds Try.pinned (OpenSpec.ofChange fnGridsCountedSpec)

/-- ITS FALSE NEIGHBOUR: 'it returns false'. Refute it at one input. -/
def fnGridsCountedWrong : ChangeSpec := { name := "fnGridsCounted", fn := fun _ => fun
  | [d1, d2] => { results := [.lit (.bool false)], args := [d1, d2] }
  | _ => none }
def FnGridsCountedWrongFalsely : Prop := fnGridsCountedRow.holds Try.pinned (OpenSpec.ofChange fnGridsCountedWrong)

/-- 'laws.FnExactIsMixed': WHATEVER THE INPUT: true; the input reads as it did. -/
def fnExactIsMixedSpec : ChangeSpec := { name := "fnExactIsMixed", fn := fun _ => fun
  | [d] => { results := [.lit (.bool true)], args := [d] }
  | _ => none }
def fnExactIsMixedRow : OpenClaim := { program := "ytnmmgpmhpjjehaa", sum := "c850039cb4dd04dfda0e2aa13bb4d0e3f5e7a90e03dc1298c6039e3140c4cae1", func := "loop.example/g01218/laws.FnExactIsMixed", spec := "fnExactIsMixed", inPlace := ["internal/bytealg.IndexByteString"], apart := false }
def FnExactIsMixedSaid : Prop := fnExactIsMixedRow.holds Try.pinned (OpenSpec.ofChange fnExactIsMixedSpec)

/-- ITS FALSE NEIGHBOUR: 'it returns false'. Refute it at one input. -/
def fnExactIsMixedWrong : ChangeSpec := { name := "fnExactIsMixed", fn := fun _ => fun
  | [d] => { results := [.lit (.bool false)], args := [d] }
  | _ => none }
def FnExactIsMixedWrongFalsely : Prop := fnExactIsMixedRow.holds Try.pinned (OpenSpec.ofChange fnExactIsMixedWrong)

/-- 'laws.FnExactCountMixed': WHATEVER THE INPUT: true; the input reads as it did. -/
def fnExactCountMixedSpec : ChangeSpec := { name := "fnExactCountMixed", fn := fun _ => fun
  | [d1, d2] => { results := [.lit (.bool true)], args := [d1, d2] }
  | _ => none }
def fnExactCountMixedRow : OpenClaim := { program := "ytnmmgpmhpjjehaa", sum := "c850039cb4dd04dfda0e2aa13bb4d0e3f5e7a90e03dc1298c6039e3140c4cae1", func := "loop.example/g01218/laws.FnExactCountMixed", spec := "fnExactCountMixed", unfollowed := true, recurses := true, apart := false }
def FnExactCountMixedSaid : Prop := fnExactCountMixedRow.holds Try.pinned (OpenSpec.ofChange fnExactCountMixedSpec)

/-- ITS FALSE NEIGHBOUR: 'it returns false'. Refute it at one input. -/
def fnExactCountMixedWrong : ChangeSpec := { name := "fnExactCountMixed", fn := fun _ => fun
  | [d1, d2] => { results := [.lit (.bool false)], args := [d1, d2] }
  | _ => none }
def FnExactCountMixedWrongFalsely : Prop := fnExactCountMixedRow.holds Try.pinned (OpenSpec.ofChange fnExactCountMixedWrong)

/-- 'laws.FnExactAllMixed': WHATEVER THE INPUT: true; the input reads as it did. -/
def fnExactAllMixedSpec : ChangeSpec := { name := "fnExactAllMixed", fn := fun _ => fun
  | [d] => { results := [.lit (.bool true)], args := [d] }
  | _ => none }
def fnExactAllMixedRow : OpenClaim := { program := "ytnmmgpmhpjjehaa", sum := "c850039cb4dd04dfda0e2aa13bb4d0e3f5e7a90e03dc1298c6039e3140c4cae1", func := "loop.example/g01218/laws.FnExactAllMixed", spec := "fnExactAllMixed", recurses := true, apart := false }
def FnExactAllMixedSaid : Prop := fnExactAllMixedRow.holds Try.pinned (OpenSpec.ofChange fnExactAllMixedSpec)

/-- ITS FALSE NEIGHBOUR: 'it returns false'. Refute it at one input. -/
def fnExactAllMixedWrong : ChangeSpec := { name := "fnExactAllMixed", fn := fun _ => fun
  | [d] => { results := [.lit (.bool false)], args := [d] }
  | _ => none }
def FnExactAllMixedWrongFalsely : Prop := fnExactAllMixedRow.holds Try.pinned (OpenSpec.ofChange fnExactAllMixedWrong)

/-- 'laws.FnExactCountNoFloor': WHATEVER THE INPUT: true; the input reads as it did. -/
def fnExactCountNoFloorSpec : ChangeSpec := { name := "fnExactCountNoFloor", fn := fun _ => fun
  | [d] => { results := [.lit (.bool true)], args := [d] }
  | _ => none }
def fnExactCountNoFloorRow : OpenClaim := { program := "ytnmmgpmhpjjehaa", sum := "c850039cb4dd04dfda0e2aa13bb4d0e3f5e7a90e03dc1298c6039e3140c4cae1", func := "loop.example/g01218/laws.FnExactCountNoFloor", spec := "fnExactCountNoFloor", unfollowed := true, recurses := true, apart := false }
def FnExactCountNoFloorSaid : Prop := fnExactCountNoFloorRow.holds Try.pinned (OpenSpec.ofChange fnExactCountNoFloorSpec)

/-- ITS FALSE NEIGHBOUR: 'it returns false'. Refute it at one input. -/
def fnExactCountNoFloorWrong : ChangeSpec := { name := "fnExactCountNoFloor", fn := fun _ => fun
  | [d] => { results := [.lit (.bool false)], args := [d] }
  | _ => none }
def FnExactCountNoFloorWrongFalsely : Prop := fnExactCountNoFloorRow.holds Try.pinned (OpenSpec.ofChange fnExactCountNoFloorWrong)

/-- 'laws.FnExactCountColors': WHATEVER THE INPUT: true; the input reads as it did. -/
def fnExactCountColorsSpec : ChangeSpec := { name := "fnExactCountColors", fn := fun _ => fun
  | [d1, d2, d3, d4] => { results := [.lit (.bool true)], args := [d1, d2, d3, d4] }
  | _ => none }
def fnExactCountColorsRow : OpenClaim := { program := "ytnmmgpmhpjjehaa", sum := "c850039cb4dd04dfda0e2aa13bb4d0e3f5e7a90e03dc1298c6039e3140c4cae1", func := "loop.example/g01218/laws.FnExactCountColors", spec := "fnExactCountColors", unfollowed := true, recurses := true, apart := false }
def FnExactCountColorsSaid : Prop := fnExactCountColorsRow.holds Try.pinned (OpenSpec.ofChange fnExactCountColorsSpec)

/-- ITS FALSE NEIGHBOUR: 'it returns false'. Refute it at one input. -/
def fnExactCountColorsWrong : ChangeSpec := { name := "fnExactCountColors", fn := fun _ => fun
  | [d1, d2, d3, d4] => { results := [.lit (.bool false)], args := [d1, d2, d3, d4] }
  | _ => none }
def FnExactCountColorsWrongFalsely : Prop := fnExactCountColorsRow.holds Try.pinned (OpenSpec.ofChange fnExactCountColorsWrong)

/-- 'laws.FnExactIsLevels': WHATEVER THE INPUT: true; the input reads as it did. -/
def fnExactIsLevelsSpec : ChangeSpec := { name := "fnExactIsLevels", fn := fun _ => fun
  | [d] => { results := [.lit (.bool true)], args := [d] }
  | _ => none }
def fnExactIsLevelsRow : OpenClaim := { program := "ytnmmgpmhpjjehaa", sum := "c850039cb4dd04dfda0e2aa13bb4d0e3f5e7a90e03dc1298c6039e3140c4cae1", func := "loop.example/g01218/laws.FnExactIsLevels", spec := "fnExactIsLevels", apart := false }
def FnExactIsLevelsSaid : Prop := fnExactIsLevelsRow.holds Try.pinned (OpenSpec.ofChange fnExactIsLevelsSpec)

/-- ITS FALSE NEIGHBOUR: 'it returns false'. Refute it at one input. -/
def fnExactIsLevelsWrong : ChangeSpec := { name := "fnExactIsLevels", fn := fun _ => fun
  | [d] => { results := [.lit (.bool false)], args := [d] }
  | _ => none }
def FnExactIsLevelsWrongFalsely : Prop := fnExactIsLevelsRow.holds Try.pinned (OpenSpec.ofChange fnExactIsLevelsWrong)

/-- 'laws.FnExactWeightOf': WHATEVER THE INPUT: true; the input reads as it did. -/
def fnExactWeightOfSpec : ChangeSpec := { name := "fnExactWeightOf", fn := fun _ => fun
  | [d1, d2] => { results := [.lit (.bool true)], args := [d1, d2] }
  | _ => none }
def fnExactWeightOfRow : OpenClaim := { program := "ytnmmgpmhpjjehaa", sum := "c850039cb4dd04dfda0e2aa13bb4d0e3f5e7a90e03dc1298c6039e3140c4cae1", func := "loop.example/g01218/laws.FnExactWeightOf", spec := "fnExactWeightOf", inPlace := ["internal/bytealg.IndexByteString"], apart := false }
def FnExactWeightOfSaid : Prop := fnExactWeightOfRow.holds Try.pinned (OpenSpec.ofChange fnExactWeightOfSpec)

/-- ITS FALSE NEIGHBOUR: 'it returns false'. Refute it at one input. -/
def fnExactWeightOfWrong : ChangeSpec := { name := "fnExactWeightOf", fn := fun _ => fun
  | [d1, d2] => { results := [.lit (.bool false)], args := [d1, d2] }
  | _ => none }
def FnExactWeightOfWrongFalsely : Prop := fnExactWeightOfRow.holds Try.pinned (OpenSpec.ofChange fnExactWeightOfWrong)

/-- 'laws.FnExactMomentsOf': WHATEVER THE INPUT: true; the input reads as it did. -/
def fnExactMomentsOfSpec : ChangeSpec := { name := "fnExactMomentsOf", fn := fun _ => fun
  | [d1, d2] => { results := [.lit (.bool true)], args := [d1, d2] }
  | _ => none }
def fnExactMomentsOfRow : OpenClaim := { program := "ytnmmgpmhpjjehaa", sum := "c850039cb4dd04dfda0e2aa13bb4d0e3f5e7a90e03dc1298c6039e3140c4cae1", func := "loop.example/g01218/laws.FnExactMomentsOf", spec := "fnExactMomentsOf", unfollowed := true, recurses := true, apart := false }
def FnExactMomentsOfSaid : Prop := fnExactMomentsOfRow.holds Try.pinned (OpenSpec.ofChange fnExactMomentsOfSpec)

/-- ITS FALSE NEIGHBOUR: 'it returns false'. Refute it at one input. -/
def fnExactMomentsOfWrong : ChangeSpec := { name := "fnExactMomentsOf", fn := fun _ => fun
  | [d1, d2] => { results := [.lit (.bool false)], args := [d1, d2] }
  | _ => none }
def FnExactMomentsOfWrongFalsely : Prop := fnExactMomentsOfRow.holds Try.pinned (OpenSpec.ofChange fnExactMomentsOfWrong)

/-- 'laws.FnExactHankelOf': WHATEVER THE INPUT: true; the input reads as it did. -/
def fnExactHankelOfSpec : ChangeSpec := { name := "fnExactHankelOf", fn := fun _ => fun
  | [d1, d2] => { results := [.lit (.bool true)], args := [d1, d2] }
  | _ => none }
def fnExactHankelOfRow : OpenClaim := { program := "ytnmmgpmhpjjehaa", sum := "c850039cb4dd04dfda0e2aa13bb4d0e3f5e7a90e03dc1298c6039e3140c4cae1", func := "loop.example/g01218/laws.FnExactHankelOf", spec := "fnExactHankelOf", recurses := true, apart := false }
def FnExactHankelOfSaid : Prop := fnExactHankelOfRow.holds Try.pinned (OpenSpec.ofChange fnExactHankelOfSpec)

/-- ITS FALSE NEIGHBOUR: 'it returns false'. Refute it at one input. -/
def fnExactHankelOfWrong : ChangeSpec := { name := "fnExactHankelOf", fn := fun _ => fun
  | [d1, d2] => { results := [.lit (.bool false)], args := [d1, d2] }
  | _ => none }
def FnExactHankelOfWrongFalsely : Prop := fnExactHankelOfRow.holds Try.pinned (OpenSpec.ofChange fnExactHankelOfWrong)

/-- 'laws.FnExactDownsOf': WHATEVER THE INPUT: true; the input reads as it did. -/
def fnExactDownsOfSpec : ChangeSpec := { name := "fnExactDownsOf", fn := fun _ => fun
  | [d] => { results := [.lit (.bool true)], args := [d] }
  | _ => none }
def fnExactDownsOfRow : OpenClaim := { program := "ytnmmgpmhpjjehaa", sum := "c850039cb4dd04dfda0e2aa13bb4d0e3f5e7a90e03dc1298c6039e3140c4cae1", func := "loop.example/g01218/laws.FnExactDownsOf", spec := "fnExactDownsOf", recurses := true, apart := false }
def FnExactDownsOfSaid : Prop := fnExactDownsOfRow.holds Try.pinned (OpenSpec.ofChange fnExactDownsOfSpec)

/-- ITS FALSE NEIGHBOUR: 'it returns false'. Refute it at one input. -/
def fnExactDownsOfWrong : ChangeSpec := { name := "fnExactDownsOf", fn := fun _ => fun
  | [d] => { results := [.lit (.bool false)], args := [d] }
  | _ => none }
def FnExactDownsOfWrongFalsely : Prop := fnExactDownsOfRow.holds Try.pinned (OpenSpec.ofChange fnExactDownsOfWrong)

/-- 'laws.FnExactLevelsOf': WHATEVER THE INPUT: true; the input reads as it did. -/
def fnExactLevelsOfSpec : ChangeSpec := { name := "fnExactLevelsOf", fn := fun _ => fun
  | [d] => { results := [.lit (.bool true)], args := [d] }
  | _ => none }
def fnExactLevelsOfRow : OpenClaim := { program := "ytnmmgpmhpjjehaa", sum := "c850039cb4dd04dfda0e2aa13bb4d0e3f5e7a90e03dc1298c6039e3140c4cae1", func := "loop.example/g01218/laws.FnExactLevelsOf", spec := "fnExactLevelsOf", unfollowed := true, recurses := true, apart := false }
def FnExactLevelsOfSaid : Prop := fnExactLevelsOfRow.holds Try.pinned (OpenSpec.ofChange fnExactLevelsOfSpec)

/-- ITS FALSE NEIGHBOUR: 'it returns false'. Refute it at one input. -/
def fnExactLevelsOfWrong : ChangeSpec := { name := "fnExactLevelsOf", fn := fun _ => fun
  | [d] => { results := [.lit (.bool false)], args := [d] }
  | _ => none }
def FnExactLevelsOfWrongFalsely : Prop := fnExactLevelsOfRow.holds Try.pinned (OpenSpec.ofChange fnExactLevelsOfWrong)

/-- 'laws.FnExactShiftMoments': WHATEVER THE INPUT: true; the input reads as it did. -/
def fnExactShiftMomentsSpec : ChangeSpec := { name := "fnExactShiftMoments", fn := fun _ => fun
  | [d1, d2] => { results := [.lit (.bool true)], args := [d1, d2] }
  | _ => none }
def fnExactShiftMomentsRow : OpenClaim := { program := "ytnmmgpmhpjjehaa", sum := "c850039cb4dd04dfda0e2aa13bb4d0e3f5e7a90e03dc1298c6039e3140c4cae1", func := "loop.example/g01218/laws.FnExactShiftMoments", spec := "fnExactShiftMoments", apart := false }
def FnExactShiftMomentsSaid : Prop := fnExactShiftMomentsRow.holds Try.pinned (OpenSpec.ofChange fnExactShiftMomentsSpec)

/-- ITS FALSE NEIGHBOUR: 'it returns false'. Refute it at one input. -/
def fnExactShiftMomentsWrong : ChangeSpec := { name := "fnExactShiftMoments", fn := fun _ => fun
  | [d1, d2] => { results := [.lit (.bool false)], args := [d1, d2] }
  | _ => none }
def FnExactShiftMomentsWrongFalsely : Prop := fnExactShiftMomentsRow.holds Try.pinned (OpenSpec.ofChange fnExactShiftMomentsWrong)

/-- 'laws.FnExactCountDelannoy': WHATEVER THE INPUT: true; the input reads as it did. -/
def fnExactCountDelannoySpec : ChangeSpec := { name := "fnExactCountDelannoy", fn := fun _ => fun
  | [d1, d2] => { results := [.lit (.bool true)], args := [d1, d2] }
  | _ => none }
def fnExactCountDelannoyRow : OpenClaim := { program := "ytnmmgpmhpjjehaa", sum := "c850039cb4dd04dfda0e2aa13bb4d0e3f5e7a90e03dc1298c6039e3140c4cae1", func := "loop.example/g01218/laws.FnExactCountDelannoy", spec := "fnExactCountDelannoy", unfollowed := true, recurses := true, apart := false }
def FnExactCountDelannoySaid : Prop := fnExactCountDelannoyRow.holds Try.pinned (OpenSpec.ofChange fnExactCountDelannoySpec)

/-- ITS FALSE NEIGHBOUR: 'it returns false'. Refute it at one input. -/
def fnExactCountDelannoyWrong : ChangeSpec := { name := "fnExactCountDelannoy", fn := fun _ => fun
  | [d1, d2] => { results := [.lit (.bool false)], args := [d1, d2] }
  | _ => none }
def FnExactCountDelannoyWrongFalsely : Prop := fnExactCountDelannoyRow.holds Try.pinned (OpenSpec.ofChange fnExactCountDelannoyWrong)

/-- 'laws.FnExactCountSchroder': WHATEVER THE INPUT: true; the input reads as it did. -/
def fnExactCountSchroderSpec : ChangeSpec := { name := "fnExactCountSchroder", fn := fun _ => fun
  | [d] => { results := [.lit (.bool true)], args := [d] }
  | _ => none }
def fnExactCountSchroderRow : OpenClaim := { program := "ytnmmgpmhpjjehaa", sum := "c850039cb4dd04dfda0e2aa13bb4d0e3f5e7a90e03dc1298c6039e3140c4cae1", func := "loop.example/g01218/laws.FnExactCountSchroder", spec := "fnExactCountSchroder", unfollowed := true, recurses := true, apart := false }
def FnExactCountSchroderSaid : Prop := fnExactCountSchroderRow.holds Try.pinned (OpenSpec.ofChange fnExactCountSchroderSpec)

/-- ITS FALSE NEIGHBOUR: 'it returns false'. Refute it at one input. -/
def fnExactCountSchroderWrong : ChangeSpec := { name := "fnExactCountSchroder", fn := fun _ => fun
  | [d] => { results := [.lit (.bool false)], args := [d] }
  | _ => none }
def FnExactCountSchroderWrongFalsely : Prop := fnExactCountSchroderRow.holds Try.pinned (OpenSpec.ofChange fnExactCountSchroderWrong)

/-- 'laws.FnExactPathOfMixed': WHATEVER THE INPUT: true; the input reads as it did. -/
def fnExactPathOfMixedSpec : ChangeSpec := { name := "fnExactPathOfMixed", fn := fun _ => fun
  | [d] => { results := [.lit (.bool true)], args := [d] }
  | _ => none }
def fnExactPathOfMixedRow : OpenClaim := { program := "ytnmmgpmhpjjehaa", sum := "c850039cb4dd04dfda0e2aa13bb4d0e3f5e7a90e03dc1298c6039e3140c4cae1", func := "loop.example/g01218/laws.FnExactPathOfMixed", spec := "fnExactPathOfMixed", inPlace := ["internal/bytealg.IndexByteString"], apart := false }
def FnExactPathOfMixedSaid : Prop := fnExactPathOfMixedRow.holds Try.pinned (OpenSpec.ofChange fnExactPathOfMixedSpec)

/-- ITS FALSE NEIGHBOUR: 'it returns false'. Refute it at one input. -/
def fnExactPathOfMixedWrong : ChangeSpec := { name := "fnExactPathOfMixed", fn := fun _ => fun
  | [d] => { results := [.lit (.bool false)], args := [d] }
  | _ => none }
def FnExactPathOfMixedWrongFalsely : Prop := fnExactPathOfMixedRow.holds Try.pinned (OpenSpec.ofChange fnExactPathOfMixedWrong)

/-- 'laws.FnExactMixedOfPath': WHATEVER THE INPUT: true; the input reads as it did. -/
def fnExactMixedOfPathSpec : ChangeSpec := { name := "fnExactMixedOfPath", fn := fun _ => fun
  | [d] => { results := [.lit (.bool true)], args := [d] }
  | _ => none }
def fnExactMixedOfPathRow : OpenClaim := { program := "ytnmmgpmhpjjehaa", sum := "c850039cb4dd04dfda0e2aa13bb4d0e3f5e7a90e03dc1298c6039e3140c4cae1", func := "loop.example/g01218/laws.FnExactMixedOfPath", spec := "fnExactMixedOfPath", inPlace := ["internal/bytealg.IndexByteString"], apart := false }
def FnExactMixedOfPathSaid : Prop := fnExactMixedOfPathRow.holds Try.pinned (OpenSpec.ofChange fnExactMixedOfPathSpec)

/-- ITS FALSE NEIGHBOUR: 'it returns false'. Refute it at one input. -/
def fnExactMixedOfPathWrong : ChangeSpec := { name := "fnExactMixedOfPath", fn := fun _ => fun
  | [d] => { results := [.lit (.bool false)], args := [d] }
  | _ => none }
def FnExactMixedOfPathWrongFalsely : Prop := fnExactMixedOfPathRow.holds Try.pinned (OpenSpec.ofChange fnExactMixedOfPathWrong)

/- THE SECOND FORM. 'bulk': how many values and letters a reading holds, each counted each time it is reached (what is shared counts as often as it is met; a slice's spare places count too). A statement '..UptoSaid' is the law's where the arguments, and the package variables that the reading takes, are together of bulk at most 1048576: NARROWER than '..Said'. Prove '..Said' where nothing that the law and all that it calls make is longer than what came in: it says more and counts as full. Else prove '..UptoSaid'. A law counts once. -/
mutual
def uptoBulk {H : Type} : DataW H → Nat
  | .lit (.string bytes) => bytes.length + 1
  | .lit _ => 1
  | .nil => 1
  | .ptr d => uptoBulk d + 1
  | .slice elems spare => uptoBulkAll elems + uptoBulkAll spare + 1
  | .agg parts => uptoBulkAll parts + 1
  | .iface _ d => uptoBulk d + 1
  | .map entries => uptoBulkEntries entries + 1
  | .held _ => 1
def uptoBulkAll {H : Type} : List (DataW H) → Nat
  | [] => 0
  | d :: r => uptoBulk d + uptoBulkAll r
def uptoBulkEntries {H : Type} : List (Lit × DataW H) → Nat
  | [] => 0
  | x :: r => uptoBulkEntry x + uptoBulkEntries r
def uptoBulkEntry {H : Type} : Lit × DataW H → Nat
  | (.string bytes, d) => bytes.length + uptoBulk d + 1
  | (_, d) => uptoBulk d + 1
 end
def uptoSmall : (H : Type) → List (DataW H) → Bool := fun _ ds => decide (uptoBulkAll ds ≤ 1048576)
def OpenSpec.upto (s : _root_.Go.ChangeSpec) : _root_.Go.OpenSpec := { _root_.Go.OpenSpec.ofChange s with cond := some uptoSmall }

/-- 'laws.FnGridsCounted', WHERE WHAT IT READS IS OF BULK AT MOST 1048576: true; the input reads as it did. -/
def fnGridsCountedUptoRow : OpenClaim := { program := "ytnmmgpmhpjjehaa", sum := "c850039cb4dd04dfda0e2aa13bb4d0e3f5e7a90e03dc1298c6039e3140c4cae1", func := "loop.example/g01218/laws.FnGridsCounted", spec := "fnGridsCounted", unfollowed := true, recurses := true, apart := false, narrowed := true }
def FnGridsCountedUptoSaid : Prop := fnGridsCountedUptoRow.holds Try.pinned (OpenSpec.upto fnGridsCountedSpec)

/-- 'laws.FnExactIsMixed', WHERE WHAT IT READS IS OF BULK AT MOST 1048576: true; the input reads as it did. -/
def fnExactIsMixedUptoRow : OpenClaim := { program := "ytnmmgpmhpjjehaa", sum := "c850039cb4dd04dfda0e2aa13bb4d0e3f5e7a90e03dc1298c6039e3140c4cae1", func := "loop.example/g01218/laws.FnExactIsMixed", spec := "fnExactIsMixed", inPlace := ["internal/bytealg.IndexByteString"], apart := false, narrowed := true }
def FnExactIsMixedUptoSaid : Prop := fnExactIsMixedUptoRow.holds Try.pinned (OpenSpec.upto fnExactIsMixedSpec)

/-- 'laws.FnExactCountMixed', WHERE WHAT IT READS IS OF BULK AT MOST 1048576: true; the input reads as it did. -/
def fnExactCountMixedUptoRow : OpenClaim := { program := "ytnmmgpmhpjjehaa", sum := "c850039cb4dd04dfda0e2aa13bb4d0e3f5e7a90e03dc1298c6039e3140c4cae1", func := "loop.example/g01218/laws.FnExactCountMixed", spec := "fnExactCountMixed", unfollowed := true, recurses := true, apart := false, narrowed := true }
def FnExactCountMixedUptoSaid : Prop := fnExactCountMixedUptoRow.holds Try.pinned (OpenSpec.upto fnExactCountMixedSpec)

/-- 'laws.FnExactAllMixed', WHERE WHAT IT READS IS OF BULK AT MOST 1048576: true; the input reads as it did. -/
def fnExactAllMixedUptoRow : OpenClaim := { program := "ytnmmgpmhpjjehaa", sum := "c850039cb4dd04dfda0e2aa13bb4d0e3f5e7a90e03dc1298c6039e3140c4cae1", func := "loop.example/g01218/laws.FnExactAllMixed", spec := "fnExactAllMixed", recurses := true, apart := false, narrowed := true }
def FnExactAllMixedUptoSaid : Prop := fnExactAllMixedUptoRow.holds Try.pinned (OpenSpec.upto fnExactAllMixedSpec)

/-- 'laws.FnExactCountNoFloor', WHERE WHAT IT READS IS OF BULK AT MOST 1048576: true; the input reads as it did. -/
def fnExactCountNoFloorUptoRow : OpenClaim := { program := "ytnmmgpmhpjjehaa", sum := "c850039cb4dd04dfda0e2aa13bb4d0e3f5e7a90e03dc1298c6039e3140c4cae1", func := "loop.example/g01218/laws.FnExactCountNoFloor", spec := "fnExactCountNoFloor", unfollowed := true, recurses := true, apart := false, narrowed := true }
def FnExactCountNoFloorUptoSaid : Prop := fnExactCountNoFloorUptoRow.holds Try.pinned (OpenSpec.upto fnExactCountNoFloorSpec)

/-- 'laws.FnExactCountColors', WHERE WHAT IT READS IS OF BULK AT MOST 1048576: true; the input reads as it did. -/
def fnExactCountColorsUptoRow : OpenClaim := { program := "ytnmmgpmhpjjehaa", sum := "c850039cb4dd04dfda0e2aa13bb4d0e3f5e7a90e03dc1298c6039e3140c4cae1", func := "loop.example/g01218/laws.FnExactCountColors", spec := "fnExactCountColors", unfollowed := true, recurses := true, apart := false, narrowed := true }
def FnExactCountColorsUptoSaid : Prop := fnExactCountColorsUptoRow.holds Try.pinned (OpenSpec.upto fnExactCountColorsSpec)

/-- 'laws.FnExactIsLevels', WHERE WHAT IT READS IS OF BULK AT MOST 1048576: true; the input reads as it did. -/
def fnExactIsLevelsUptoRow : OpenClaim := { program := "ytnmmgpmhpjjehaa", sum := "c850039cb4dd04dfda0e2aa13bb4d0e3f5e7a90e03dc1298c6039e3140c4cae1", func := "loop.example/g01218/laws.FnExactIsLevels", spec := "fnExactIsLevels", apart := false, narrowed := true }
def FnExactIsLevelsUptoSaid : Prop := fnExactIsLevelsUptoRow.holds Try.pinned (OpenSpec.upto fnExactIsLevelsSpec)

/-- 'laws.FnExactWeightOf', WHERE WHAT IT READS IS OF BULK AT MOST 1048576: true; the input reads as it did. -/
def fnExactWeightOfUptoRow : OpenClaim := { program := "ytnmmgpmhpjjehaa", sum := "c850039cb4dd04dfda0e2aa13bb4d0e3f5e7a90e03dc1298c6039e3140c4cae1", func := "loop.example/g01218/laws.FnExactWeightOf", spec := "fnExactWeightOf", inPlace := ["internal/bytealg.IndexByteString"], apart := false, narrowed := true }
def FnExactWeightOfUptoSaid : Prop := fnExactWeightOfUptoRow.holds Try.pinned (OpenSpec.upto fnExactWeightOfSpec)

/-- 'laws.FnExactMomentsOf', WHERE WHAT IT READS IS OF BULK AT MOST 1048576: true; the input reads as it did. -/
def fnExactMomentsOfUptoRow : OpenClaim := { program := "ytnmmgpmhpjjehaa", sum := "c850039cb4dd04dfda0e2aa13bb4d0e3f5e7a90e03dc1298c6039e3140c4cae1", func := "loop.example/g01218/laws.FnExactMomentsOf", spec := "fnExactMomentsOf", unfollowed := true, recurses := true, apart := false, narrowed := true }
def FnExactMomentsOfUptoSaid : Prop := fnExactMomentsOfUptoRow.holds Try.pinned (OpenSpec.upto fnExactMomentsOfSpec)

/-- 'laws.FnExactHankelOf', WHERE WHAT IT READS IS OF BULK AT MOST 1048576: true; the input reads as it did. -/
def fnExactHankelOfUptoRow : OpenClaim := { program := "ytnmmgpmhpjjehaa", sum := "c850039cb4dd04dfda0e2aa13bb4d0e3f5e7a90e03dc1298c6039e3140c4cae1", func := "loop.example/g01218/laws.FnExactHankelOf", spec := "fnExactHankelOf", recurses := true, apart := false, narrowed := true }
def FnExactHankelOfUptoSaid : Prop := fnExactHankelOfUptoRow.holds Try.pinned (OpenSpec.upto fnExactHankelOfSpec)

/-- 'laws.FnExactDownsOf', WHERE WHAT IT READS IS OF BULK AT MOST 1048576: true; the input reads as it did. -/
def fnExactDownsOfUptoRow : OpenClaim := { program := "ytnmmgpmhpjjehaa", sum := "c850039cb4dd04dfda0e2aa13bb4d0e3f5e7a90e03dc1298c6039e3140c4cae1", func := "loop.example/g01218/laws.FnExactDownsOf", spec := "fnExactDownsOf", recurses := true, apart := false, narrowed := true }
def FnExactDownsOfUptoSaid : Prop := fnExactDownsOfUptoRow.holds Try.pinned (OpenSpec.upto fnExactDownsOfSpec)

/-- 'laws.FnExactLevelsOf', WHERE WHAT IT READS IS OF BULK AT MOST 1048576: true; the input reads as it did. -/
def fnExactLevelsOfUptoRow : OpenClaim := { program := "ytnmmgpmhpjjehaa", sum := "c850039cb4dd04dfda0e2aa13bb4d0e3f5e7a90e03dc1298c6039e3140c4cae1", func := "loop.example/g01218/laws.FnExactLevelsOf", spec := "fnExactLevelsOf", unfollowed := true, recurses := true, apart := false, narrowed := true }
def FnExactLevelsOfUptoSaid : Prop := fnExactLevelsOfUptoRow.holds Try.pinned (OpenSpec.upto fnExactLevelsOfSpec)

/-- 'laws.FnExactShiftMoments', WHERE WHAT IT READS IS OF BULK AT MOST 1048576: true; the input reads as it did. -/
def fnExactShiftMomentsUptoRow : OpenClaim := { program := "ytnmmgpmhpjjehaa", sum := "c850039cb4dd04dfda0e2aa13bb4d0e3f5e7a90e03dc1298c6039e3140c4cae1", func := "loop.example/g01218/laws.FnExactShiftMoments", spec := "fnExactShiftMoments", apart := false, narrowed := true }
def FnExactShiftMomentsUptoSaid : Prop := fnExactShiftMomentsUptoRow.holds Try.pinned (OpenSpec.upto fnExactShiftMomentsSpec)

/-- 'laws.FnExactCountDelannoy', WHERE WHAT IT READS IS OF BULK AT MOST 1048576: true; the input reads as it did. -/
def fnExactCountDelannoyUptoRow : OpenClaim := { program := "ytnmmgpmhpjjehaa", sum := "c850039cb4dd04dfda0e2aa13bb4d0e3f5e7a90e03dc1298c6039e3140c4cae1", func := "loop.example/g01218/laws.FnExactCountDelannoy", spec := "fnExactCountDelannoy", unfollowed := true, recurses := true, apart := false, narrowed := true }
def FnExactCountDelannoyUptoSaid : Prop := fnExactCountDelannoyUptoRow.holds Try.pinned (OpenSpec.upto fnExactCountDelannoySpec)

/-- 'laws.FnExactCountSchroder', WHERE WHAT IT READS IS OF BULK AT MOST 1048576: true; the input reads as it did. -/
def fnExactCountSchroderUptoRow : OpenClaim := { program := "ytnmmgpmhpjjehaa", sum := "c850039cb4dd04dfda0e2aa13bb4d0e3f5e7a90e03dc1298c6039e3140c4cae1", func := "loop.example/g01218/laws.FnExactCountSchroder", spec := "fnExactCountSchroder", unfollowed := true, recurses := true, apart := false, narrowed := true }
def FnExactCountSchroderUptoSaid : Prop := fnExactCountSchroderUptoRow.holds Try.pinned (OpenSpec.upto fnExactCountSchroderSpec)

/-- 'laws.FnExactPathOfMixed', WHERE WHAT IT READS IS OF BULK AT MOST 1048576: true; the input reads as it did. -/
def fnExactPathOfMixedUptoRow : OpenClaim := { program := "ytnmmgpmhpjjehaa", sum := "c850039cb4dd04dfda0e2aa13bb4d0e3f5e7a90e03dc1298c6039e3140c4cae1", func := "loop.example/g01218/laws.FnExactPathOfMixed", spec := "fnExactPathOfMixed", inPlace := ["internal/bytealg.IndexByteString"], apart := false, narrowed := true }
def FnExactPathOfMixedUptoSaid : Prop := fnExactPathOfMixedUptoRow.holds Try.pinned (OpenSpec.upto fnExactPathOfMixedSpec)

/-- 'laws.FnExactMixedOfPath', WHERE WHAT IT READS IS OF BULK AT MOST 1048576: true; the input reads as it did. -/
def fnExactMixedOfPathUptoRow : OpenClaim := { program := "ytnmmgpmhpjjehaa", sum := "c850039cb4dd04dfda0e2aa13bb4d0e3f5e7a90e03dc1298c6039e3140c4cae1", func := "loop.example/g01218/laws.FnExactMixedOfPath", spec := "fnExactMixedOfPath", inPlace := ["internal/bytealg.IndexByteString"], apart := false, narrowed := true }
def FnExactMixedOfPathUptoSaid : Prop := fnExactMixedOfPathUptoRow.holds Try.pinned (OpenSpec.upto fnExactMixedOfPathSpec)

end Rows
end Go.Proofs.Ytnmmgpmhpjjehaa
