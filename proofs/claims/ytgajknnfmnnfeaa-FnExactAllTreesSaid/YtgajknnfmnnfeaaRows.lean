/-
  No cell of these rows narrows 'for every input' (looked for: loops, veiled, ifaces, maps, wideKeys, modest, calm, conditions, laid).
  DERIVED. THE GIVEN ROWS OF THIS SEAT. 16 by the template 'for every input the law returns true; each argument reads behind the call as it read before'; 0 by the template 'total and deterministic' (their statements: YtgajknnfmnnfeaaTotals.lean).
  GIVEN WITH THE SEED: the statements are not yours to turn. If you find one false, say at which input.
  Laid BY PROGRAM, IN A SANDBOX (cutbox-rows.mjs): the forced cells as the released guide's own fill.sh prints them over the translation f30b4cb517eb7313… (all of the seat's roots in one cut). By AI agents, Wed Nov 11 2026. No macro, syntax, notation, axiom, sorry.
-/
import Derived.Test.YtgajknnfmnnfeaaChecked
import GoSem.Claim
import GoSem.ClaimJoined
import GoSem.ClaimMapViews
import Derived.JoinedTies
import Derived.KernelRfl
namespace Go.Proofs.Ytgajknnfmnnfeaa
/- THE CELL 'sum', in the pinned program and in every row, IS THE sha256 OF THE DUMP (.gsa) THAT YtgajknnfmnnfeaaProg.lean LOADS. Nothing in Lean hashes anything: it is a label: what it is worth is what the hold of that sum in a sandbox is worth. -/
noncomputable def Try.pinned : Pinned := { name := "ytgajknnfmnnfeaa", sum := "f30b4cb517eb7313ab6645aae3d97624c5155fd528f10b0f8d55b2db95e3cfaa", checked := Try.checked }
namespace Rows
def none {H : Type} : Left H := { results := [], args := [] }

/-- 'laws.FnExactIsDegrees': WHATEVER THE INPUT: true; the input reads as it did. -/
def fnExactIsDegreesSpec : ChangeSpec := { name := "fnExactIsDegrees", fn := fun _ => fun
  | [d] => { results := [.lit (.bool true)], args := [d] }
  | _ => none }
def fnExactIsDegreesRow : OpenClaim := { program := "ytgajknnfmnnfeaa", sum := "f30b4cb517eb7313ab6645aae3d97624c5155fd528f10b0f8d55b2db95e3cfaa", func := "loop.example/g01218/laws.FnExactIsDegrees", spec := "fnExactIsDegrees", apart := false }
def FnExactIsDegreesSaid : Prop := fnExactIsDegreesRow.holds Try.pinned (OpenSpec.ofChange fnExactIsDegreesSpec)

/-- ITS FALSE NEIGHBOUR: 'it returns false'. Refute it at one input. -/
def fnExactIsDegreesWrong : ChangeSpec := { name := "fnExactIsDegrees", fn := fun _ => fun
  | [d] => { results := [.lit (.bool false)], args := [d] }
  | _ => none }
def FnExactIsDegreesWrongFalsely : Prop := fnExactIsDegreesRow.holds Try.pinned (OpenSpec.ofChange fnExactIsDegreesWrong)

/-- 'laws.FnExactExcessOf': WHATEVER THE INPUT: true; the input reads as it did. -/
def fnExactExcessOfSpec : ChangeSpec := { name := "fnExactExcessOf", fn := fun _ => fun
  | [d] => { results := [.lit (.bool true)], args := [d] }
  | _ => none }
def fnExactExcessOfRow : OpenClaim := { program := "ytgajknnfmnnfeaa", sum := "f30b4cb517eb7313ab6645aae3d97624c5155fd528f10b0f8d55b2db95e3cfaa", func := "loop.example/g01218/laws.FnExactExcessOf", spec := "fnExactExcessOf", apart := false }
def FnExactExcessOfSaid : Prop := fnExactExcessOfRow.holds Try.pinned (OpenSpec.ofChange fnExactExcessOfSpec)

/-- ITS FALSE NEIGHBOUR: 'it returns false'. Refute it at one input. -/
def fnExactExcessOfWrong : ChangeSpec := { name := "fnExactExcessOf", fn := fun _ => fun
  | [d] => { results := [.lit (.bool false)], args := [d] }
  | _ => none }
def FnExactExcessOfWrongFalsely : Prop := fnExactExcessOfRow.holds Try.pinned (OpenSpec.ofChange fnExactExcessOfWrong)

/-- 'laws.FnExactIsForest': WHATEVER THE INPUT: true; the input reads as it did. -/
def fnExactIsForestSpec : ChangeSpec := { name := "fnExactIsForest", fn := fun _ => fun
  | [d] => { results := [.lit (.bool true)], args := [d] }
  | _ => none }
def fnExactIsForestRow : OpenClaim := { program := "ytgajknnfmnnfeaa", sum := "f30b4cb517eb7313ab6645aae3d97624c5155fd528f10b0f8d55b2db95e3cfaa", func := "loop.example/g01218/laws.FnExactIsForest", spec := "fnExactIsForest", apart := false }
def FnExactIsForestSaid : Prop := fnExactIsForestRow.holds Try.pinned (OpenSpec.ofChange fnExactIsForestSpec)

/-- ITS FALSE NEIGHBOUR: 'it returns false'. Refute it at one input. -/
def fnExactIsForestWrong : ChangeSpec := { name := "fnExactIsForest", fn := fun _ => fun
  | [d] => { results := [.lit (.bool false)], args := [d] }
  | _ => none }
def FnExactIsForestWrongFalsely : Prop := fnExactIsForestRow.holds Try.pinned (OpenSpec.ofChange fnExactIsForestWrong)

/-- 'laws.FnExactGoodRotations': WHATEVER THE INPUT: true; the input reads as it did. -/
def fnExactGoodRotationsSpec : ChangeSpec := { name := "fnExactGoodRotations", fn := fun _ => fun
  | [d] => { results := [.lit (.bool true)], args := [d] }
  | _ => none }
def fnExactGoodRotationsRow : OpenClaim := { program := "ytgajknnfmnnfeaa", sum := "f30b4cb517eb7313ab6645aae3d97624c5155fd528f10b0f8d55b2db95e3cfaa", func := "loop.example/g01218/laws.FnExactGoodRotations", spec := "fnExactGoodRotations", apart := false }
def FnExactGoodRotationsSaid : Prop := fnExactGoodRotationsRow.holds Try.pinned (OpenSpec.ofChange fnExactGoodRotationsSpec)

/-- ITS FALSE NEIGHBOUR: 'it returns false'. Refute it at one input. -/
def fnExactGoodRotationsWrong : ChangeSpec := { name := "fnExactGoodRotations", fn := fun _ => fun
  | [d] => { results := [.lit (.bool false)], args := [d] }
  | _ => none }
def FnExactGoodRotationsWrongFalsely : Prop := fnExactGoodRotationsRow.holds Try.pinned (OpenSpec.ofChange fnExactGoodRotationsWrong)

/-- 'laws.FnExactRotateList': WHATEVER THE INPUT: true; the input reads as it did. -/
def fnExactRotateListSpec : ChangeSpec := { name := "fnExactRotateList", fn := fun _ => fun
  | [d1, d2] => { results := [.lit (.bool true)], args := [d1, d2] }
  | _ => none }
def fnExactRotateListRow : OpenClaim := { program := "ytgajknnfmnnfeaa", sum := "f30b4cb517eb7313ab6645aae3d97624c5155fd528f10b0f8d55b2db95e3cfaa", func := "loop.example/g01218/laws.FnExactRotateList", spec := "fnExactRotateList", apart := false }
def FnExactRotateListSaid : Prop := fnExactRotateListRow.holds Try.pinned (OpenSpec.ofChange fnExactRotateListSpec)

/-- ITS FALSE NEIGHBOUR: 'it returns false'. Refute it at one input. -/
def fnExactRotateListWrong : ChangeSpec := { name := "fnExactRotateList", fn := fun _ => fun
  | [d1, d2] => { results := [.lit (.bool false)], args := [d1, d2] }
  | _ => none }
def FnExactRotateListWrongFalsely : Prop := fnExactRotateListRow.holds Try.pinned (OpenSpec.ofChange fnExactRotateListWrong)

/-- 'laws.FnExactTreesOf': WHATEVER THE INPUT: true; the input reads as it did. -/
def fnExactTreesOfSpec : ChangeSpec := { name := "fnExactTreesOf", fn := fun _ => fun
  | [d] => { results := [.lit (.bool true)], args := [d] }
  | _ => none }
def fnExactTreesOfRow : OpenClaim := { program := "ytgajknnfmnnfeaa", sum := "f30b4cb517eb7313ab6645aae3d97624c5155fd528f10b0f8d55b2db95e3cfaa", func := "loop.example/g01218/laws.FnExactTreesOf", spec := "fnExactTreesOf", unfollowed := true, recurses := true, apart := false }
def FnExactTreesOfSaid : Prop := fnExactTreesOfRow.holds Try.pinned (OpenSpec.ofChange fnExactTreesOfSpec)

/-- ITS FALSE NEIGHBOUR: 'it returns false'. Refute it at one input. -/
def fnExactTreesOfWrong : ChangeSpec := { name := "fnExactTreesOf", fn := fun _ => fun
  | [d] => { results := [.lit (.bool false)], args := [d] }
  | _ => none }
def FnExactTreesOfWrongFalsely : Prop := fnExactTreesOfRow.holds Try.pinned (OpenSpec.ofChange fnExactTreesOfWrong)

/-- 'laws.FnExactParentsOf': WHATEVER THE INPUT: true; the input reads as it did. -/
def fnExactParentsOfSpec : ChangeSpec := { name := "fnExactParentsOf", fn := fun _ => fun
  | [d] => { results := [.lit (.bool true)], args := [d] }
  | _ => none }
def fnExactParentsOfRow : OpenClaim := { program := "ytgajknnfmnnfeaa", sum := "f30b4cb517eb7313ab6645aae3d97624c5155fd528f10b0f8d55b2db95e3cfaa", func := "loop.example/g01218/laws.FnExactParentsOf", spec := "fnExactParentsOf", unfollowed := true, recurses := true, apart := false }
def FnExactParentsOfSaid : Prop := fnExactParentsOfRow.holds Try.pinned (OpenSpec.ofChange fnExactParentsOfSpec)

/-- ITS FALSE NEIGHBOUR: 'it returns false'. Refute it at one input. -/
def fnExactParentsOfWrong : ChangeSpec := { name := "fnExactParentsOf", fn := fun _ => fun
  | [d] => { results := [.lit (.bool false)], args := [d] }
  | _ => none }
def FnExactParentsOfWrongFalsely : Prop := fnExactParentsOfRow.holds Try.pinned (OpenSpec.ofChange fnExactParentsOfWrong)

/-- 'laws.FnExactDepthsOf': WHATEVER THE INPUT: true; the input reads as it did. -/
def fnExactDepthsOfSpec : ChangeSpec := { name := "fnExactDepthsOf", fn := fun _ => fun
  | [d] => { results := [.lit (.bool true)], args := [d] }
  | _ => none }
def fnExactDepthsOfRow : OpenClaim := { program := "ytgajknnfmnnfeaa", sum := "f30b4cb517eb7313ab6645aae3d97624c5155fd528f10b0f8d55b2db95e3cfaa", func := "loop.example/g01218/laws.FnExactDepthsOf", spec := "fnExactDepthsOf", unfollowed := true, recurses := true, apart := false }
def FnExactDepthsOfSaid : Prop := fnExactDepthsOfRow.holds Try.pinned (OpenSpec.ofChange fnExactDepthsOfSpec)

/-- ITS FALSE NEIGHBOUR: 'it returns false'. Refute it at one input. -/
def fnExactDepthsOfWrong : ChangeSpec := { name := "fnExactDepthsOf", fn := fun _ => fun
  | [d] => { results := [.lit (.bool false)], args := [d] }
  | _ => none }
def FnExactDepthsOfWrongFalsely : Prop := fnExactDepthsOfRow.holds Try.pinned (OpenSpec.ofChange fnExactDepthsOfWrong)

/-- 'laws.FnExactMirrorForest': WHATEVER THE INPUT: true; the input reads as it did. -/
def fnExactMirrorForestSpec : ChangeSpec := { name := "fnExactMirrorForest", fn := fun _ => fun
  | [d] => { results := [.lit (.bool true)], args := [d] }
  | _ => none }
def fnExactMirrorForestRow : OpenClaim := { program := "ytgajknnfmnnfeaa", sum := "f30b4cb517eb7313ab6645aae3d97624c5155fd528f10b0f8d55b2db95e3cfaa", func := "loop.example/g01218/laws.FnExactMirrorForest", spec := "fnExactMirrorForest", unfollowed := true, recurses := true, apart := false }
def FnExactMirrorForestSaid : Prop := fnExactMirrorForestRow.holds Try.pinned (OpenSpec.ofChange fnExactMirrorForestSpec)

/-- ITS FALSE NEIGHBOUR: 'it returns false'. Refute it at one input. -/
def fnExactMirrorForestWrong : ChangeSpec := { name := "fnExactMirrorForest", fn := fun _ => fun
  | [d] => { results := [.lit (.bool false)], args := [d] }
  | _ => none }
def FnExactMirrorForestWrongFalsely : Prop := fnExactMirrorForestRow.holds Try.pinned (OpenSpec.ofChange fnExactMirrorForestWrong)

/-- 'laws.FnExactPathOfTree': WHATEVER THE INPUT: true; the input reads as it did. -/
def fnExactPathOfTreeSpec : ChangeSpec := { name := "fnExactPathOfTree", fn := fun _ => fun
  | [d] => { results := [.lit (.bool true)], args := [d] }
  | _ => none }
def fnExactPathOfTreeRow : OpenClaim := { program := "ytgajknnfmnnfeaa", sum := "f30b4cb517eb7313ab6645aae3d97624c5155fd528f10b0f8d55b2db95e3cfaa", func := "loop.example/g01218/laws.FnExactPathOfTree", spec := "fnExactPathOfTree", unfollowed := true, recurses := true, apart := false }
def FnExactPathOfTreeSaid : Prop := fnExactPathOfTreeRow.holds Try.pinned (OpenSpec.ofChange fnExactPathOfTreeSpec)

/-- ITS FALSE NEIGHBOUR: 'it returns false'. Refute it at one input. -/
def fnExactPathOfTreeWrong : ChangeSpec := { name := "fnExactPathOfTree", fn := fun _ => fun
  | [d] => { results := [.lit (.bool false)], args := [d] }
  | _ => none }
def FnExactPathOfTreeWrongFalsely : Prop := fnExactPathOfTreeRow.holds Try.pinned (OpenSpec.ofChange fnExactPathOfTreeWrong)

/-- 'laws.FnExactTreeOfPath': WHATEVER THE INPUT: true; the input reads as it did. -/
def fnExactTreeOfPathSpec : ChangeSpec := { name := "fnExactTreeOfPath", fn := fun _ => fun
  | [d] => { results := [.lit (.bool true)], args := [d] }
  | _ => none }
def fnExactTreeOfPathRow : OpenClaim := { program := "ytgajknnfmnnfeaa", sum := "f30b4cb517eb7313ab6645aae3d97624c5155fd528f10b0f8d55b2db95e3cfaa", func := "loop.example/g01218/laws.FnExactTreeOfPath", spec := "fnExactTreeOfPath", unfollowed := true, recurses := true, apart := false }
def FnExactTreeOfPathSaid : Prop := fnExactTreeOfPathRow.holds Try.pinned (OpenSpec.ofChange fnExactTreeOfPathSpec)

/-- ITS FALSE NEIGHBOUR: 'it returns false'. Refute it at one input. -/
def fnExactTreeOfPathWrong : ChangeSpec := { name := "fnExactTreeOfPath", fn := fun _ => fun
  | [d] => { results := [.lit (.bool false)], args := [d] }
  | _ => none }
def FnExactTreeOfPathWrongFalsely : Prop := fnExactTreeOfPathRow.holds Try.pinned (OpenSpec.ofChange fnExactTreeOfPathWrong)

/-- 'laws.FnExactCountForests': WHATEVER THE INPUT: true; the input reads as it did. -/
def fnExactCountForestsSpec : ChangeSpec := { name := "fnExactCountForests", fn := fun _ => fun
  | [d] => { results := [.lit (.bool true)], args := [d] }
  | _ => none }
def fnExactCountForestsRow : OpenClaim := { program := "ytgajknnfmnnfeaa", sum := "f30b4cb517eb7313ab6645aae3d97624c5155fd528f10b0f8d55b2db95e3cfaa", func := "loop.example/g01218/laws.FnExactCountForests", spec := "fnExactCountForests", apart := false }
def FnExactCountForestsSaid : Prop := fnExactCountForestsRow.holds Try.pinned (OpenSpec.ofChange fnExactCountForestsSpec)

/-- ITS FALSE NEIGHBOUR: 'it returns false'. Refute it at one input. -/
def fnExactCountForestsWrong : ChangeSpec := { name := "fnExactCountForests", fn := fun _ => fun
  | [d] => { results := [.lit (.bool false)], args := [d] }
  | _ => none }
def FnExactCountForestsWrongFalsely : Prop := fnExactCountForestsRow.holds Try.pinned (OpenSpec.ofChange fnExactCountForestsWrong)

/-- 'laws.FnExactFirstForest': WHATEVER THE INPUT: true; the input reads as it did. -/
def fnExactFirstForestSpec : ChangeSpec := { name := "fnExactFirstForest", fn := fun _ => fun
  | [d] => { results := [.lit (.bool true)], args := [d] }
  | _ => none }
def fnExactFirstForestRow : OpenClaim := { program := "ytgajknnfmnnfeaa", sum := "f30b4cb517eb7313ab6645aae3d97624c5155fd528f10b0f8d55b2db95e3cfaa", func := "loop.example/g01218/laws.FnExactFirstForest", spec := "fnExactFirstForest", apart := false }
def FnExactFirstForestSaid : Prop := fnExactFirstForestRow.holds Try.pinned (OpenSpec.ofChange fnExactFirstForestSpec)

/-- ITS FALSE NEIGHBOUR: 'it returns false'. Refute it at one input. -/
def fnExactFirstForestWrong : ChangeSpec := { name := "fnExactFirstForest", fn := fun _ => fun
  | [d] => { results := [.lit (.bool false)], args := [d] }
  | _ => none }
def FnExactFirstForestWrongFalsely : Prop := fnExactFirstForestRow.holds Try.pinned (OpenSpec.ofChange fnExactFirstForestWrong)

/-- 'laws.FnExactAllTrees': WHATEVER THE INPUT: true; the input reads as it did. -/
def fnExactAllTreesSpec : ChangeSpec := { name := "fnExactAllTrees", fn := fun _ => fun
  | [d] => { results := [.lit (.bool true)], args := [d] }
  | _ => none }
def fnExactAllTreesRow : OpenClaim := { program := "ytgajknnfmnnfeaa", sum := "f30b4cb517eb7313ab6645aae3d97624c5155fd528f10b0f8d55b2db95e3cfaa", func := "loop.example/g01218/laws.FnExactAllTrees", spec := "fnExactAllTrees", unfollowed := true, recurses := true, apart := false }
def FnExactAllTreesSaid : Prop := fnExactAllTreesRow.holds Try.pinned (OpenSpec.ofChange fnExactAllTreesSpec)

/-- ITS FALSE NEIGHBOUR: 'it returns false'. Refute it at one input. -/
def fnExactAllTreesWrong : ChangeSpec := { name := "fnExactAllTrees", fn := fun _ => fun
  | [d] => { results := [.lit (.bool false)], args := [d] }
  | _ => none }
def FnExactAllTreesWrongFalsely : Prop := fnExactAllTreesRow.holds Try.pinned (OpenSpec.ofChange fnExactAllTreesWrong)

/-- 'laws.FnExactRankOfTree': WHATEVER THE INPUT: true; the input reads as it did. -/
def fnExactRankOfTreeSpec : ChangeSpec := { name := "fnExactRankOfTree", fn := fun _ => fun
  | [d] => { results := [.lit (.bool true)], args := [d] }
  | _ => none }
def fnExactRankOfTreeRow : OpenClaim := { program := "ytgajknnfmnnfeaa", sum := "f30b4cb517eb7313ab6645aae3d97624c5155fd528f10b0f8d55b2db95e3cfaa", func := "loop.example/g01218/laws.FnExactRankOfTree", spec := "fnExactRankOfTree", apart := false }
def FnExactRankOfTreeSaid : Prop := fnExactRankOfTreeRow.holds Try.pinned (OpenSpec.ofChange fnExactRankOfTreeSpec)

/-- ITS FALSE NEIGHBOUR: 'it returns false'. Refute it at one input. -/
def fnExactRankOfTreeWrong : ChangeSpec := { name := "fnExactRankOfTree", fn := fun _ => fun
  | [d] => { results := [.lit (.bool false)], args := [d] }
  | _ => none }
def FnExactRankOfTreeWrongFalsely : Prop := fnExactRankOfTreeRow.holds Try.pinned (OpenSpec.ofChange fnExactRankOfTreeWrong)

/-- 'laws.FnExactRatioRotations': WHATEVER THE INPUT: true; the input reads as it did. -/
def fnExactRatioRotationsSpec : ChangeSpec := { name := "fnExactRatioRotations", fn := fun _ => fun
  | [d1, d2] => { results := [.lit (.bool true)], args := [d1, d2] }
  | _ => none }
def fnExactRatioRotationsRow : OpenClaim := { program := "ytgajknnfmnnfeaa", sum := "f30b4cb517eb7313ab6645aae3d97624c5155fd528f10b0f8d55b2db95e3cfaa", func := "loop.example/g01218/laws.FnExactRatioRotations", spec := "fnExactRatioRotations", apart := false }
def FnExactRatioRotationsSaid : Prop := fnExactRatioRotationsRow.holds Try.pinned (OpenSpec.ofChange fnExactRatioRotationsSpec)

/-- ITS FALSE NEIGHBOUR: 'it returns false'. Refute it at one input. -/
def fnExactRatioRotationsWrong : ChangeSpec := { name := "fnExactRatioRotations", fn := fun _ => fun
  | [d1, d2] => { results := [.lit (.bool false)], args := [d1, d2] }
  | _ => none }
def FnExactRatioRotationsWrongFalsely : Prop := fnExactRatioRotationsRow.holds Try.pinned (OpenSpec.ofChange fnExactRatioRotationsWrong)

/- THE SECOND FORM. 'bulk': how many values and letters a reading holds, each counted each time it is reached (what is shared counts as often as it is met; a slice's spare places count too). A statement '..UptoSaid' is the law's where the arguments, and the package variables that the reading takes, are together of bulk at most 1048576: NARROWER than '..Said'. Prove '..Said' where nothing that the law and all that it calls make is longer than what came in: it says more and counts as full. Else prove '..UptoSaid'. A law counts once. -/
mutual
def uptoBulk {H : Type} : DataW H → Nat
  | .lit (.string bytes) => bytes.length + 1
  | .lit _ => 1
  | .nil => 1
  | .ptr d => uptoBulk d + 1
  | .slice elems spare => uptoBulkAll elems + uptoBulkAll spare + 1
  | .agg parts => uptoBulkAll parts + 1
  | .iface _ d => uptoBulk d + 1
  | .map entries => uptoBulkEntries entries + 1
  | .held _ => 1
def uptoBulkAll {H : Type} : List (DataW H) → Nat
  | [] => 0
  | d :: r => uptoBulk d + uptoBulkAll r
def uptoBulkEntries {H : Type} : List (Lit × DataW H) → Nat
  | [] => 0
  | x :: r => uptoBulkEntry x + uptoBulkEntries r
def uptoBulkEntry {H : Type} : Lit × DataW H → Nat
  | (.string bytes, d) => bytes.length + uptoBulk d + 1
  | (_, d) => uptoBulk d + 1
 end
def uptoSmall : (H : Type) → List (DataW H) → Bool := fun _ ds => decide (uptoBulkAll ds ≤ 1048576)
def OpenSpec.upto (s : _root_.Go.ChangeSpec) : _root_.Go.OpenSpec := { _root_.Go.OpenSpec.ofChange s with cond := some uptoSmall }

/-- 'laws.FnExactIsDegrees', WHERE WHAT IT READS IS OF BULK AT MOST 1048576: true; the input reads as it did. -/
def fnExactIsDegreesUptoRow : OpenClaim := { program := "ytgajknnfmnnfeaa", sum := "f30b4cb517eb7313ab6645aae3d97624c5155fd528f10b0f8d55b2db95e3cfaa", func := "loop.example/g01218/laws.FnExactIsDegrees", spec := "fnExactIsDegrees", apart := false, narrowed := true }
def FnExactIsDegreesUptoSaid : Prop := fnExactIsDegreesUptoRow.holds Try.pinned (OpenSpec.upto fnExactIsDegreesSpec)

/-- 'laws.FnExactExcessOf', WHERE WHAT IT READS IS OF BULK AT MOST 1048576: true; the input reads as it did. -/
def fnExactExcessOfUptoRow : OpenClaim := { program := "ytgajknnfmnnfeaa", sum := "f30b4cb517eb7313ab6645aae3d97624c5155fd528f10b0f8d55b2db95e3cfaa", func := "loop.example/g01218/laws.FnExactExcessOf", spec := "fnExactExcessOf", apart := false, narrowed := true }
def FnExactExcessOfUptoSaid : Prop := fnExactExcessOfUptoRow.holds Try.pinned (OpenSpec.upto fnExactExcessOfSpec)

/-- 'laws.FnExactIsForest', WHERE WHAT IT READS IS OF BULK AT MOST 1048576: true; the input reads as it did. -/
def fnExactIsForestUptoRow : OpenClaim := { program := "ytgajknnfmnnfeaa", sum := "f30b4cb517eb7313ab6645aae3d97624c5155fd528f10b0f8d55b2db95e3cfaa", func := "loop.example/g01218/laws.FnExactIsForest", spec := "fnExactIsForest", apart := false, narrowed := true }
def FnExactIsForestUptoSaid : Prop := fnExactIsForestUptoRow.holds Try.pinned (OpenSpec.upto fnExactIsForestSpec)

/-- 'laws.FnExactGoodRotations', WHERE WHAT IT READS IS OF BULK AT MOST 1048576: true; the input reads as it did. -/
def fnExactGoodRotationsUptoRow : OpenClaim := { program := "ytgajknnfmnnfeaa", sum := "f30b4cb517eb7313ab6645aae3d97624c5155fd528f10b0f8d55b2db95e3cfaa", func := "loop.example/g01218/laws.FnExactGoodRotations", spec := "fnExactGoodRotations", apart := false, narrowed := true }
def FnExactGoodRotationsUptoSaid : Prop := fnExactGoodRotationsUptoRow.holds Try.pinned (OpenSpec.upto fnExactGoodRotationsSpec)

/-- 'laws.FnExactRotateList', WHERE WHAT IT READS IS OF BULK AT MOST 1048576: true; the input reads as it did. -/
def fnExactRotateListUptoRow : OpenClaim := { program := "ytgajknnfmnnfeaa", sum := "f30b4cb517eb7313ab6645aae3d97624c5155fd528f10b0f8d55b2db95e3cfaa", func := "loop.example/g01218/laws.FnExactRotateList", spec := "fnExactRotateList", apart := false, narrowed := true }
def FnExactRotateListUptoSaid : Prop := fnExactRotateListUptoRow.holds Try.pinned (OpenSpec.upto fnExactRotateListSpec)

/-- 'laws.FnExactTreesOf', WHERE WHAT IT READS IS OF BULK AT MOST 1048576: true; the input reads as it did. -/
def fnExactTreesOfUptoRow : OpenClaim := { program := "ytgajknnfmnnfeaa", sum := "f30b4cb517eb7313ab6645aae3d97624c5155fd528f10b0f8d55b2db95e3cfaa", func := "loop.example/g01218/laws.FnExactTreesOf", spec := "fnExactTreesOf", unfollowed := true, recurses := true, apart := false, narrowed := true }
def FnExactTreesOfUptoSaid : Prop := fnExactTreesOfUptoRow.holds Try.pinned (OpenSpec.upto fnExactTreesOfSpec)

/-- 'laws.FnExactParentsOf', WHERE WHAT IT READS IS OF BULK AT MOST 1048576: true; the input reads as it did. -/
def fnExactParentsOfUptoRow : OpenClaim := { program := "ytgajknnfmnnfeaa", sum := "f30b4cb517eb7313ab6645aae3d97624c5155fd528f10b0f8d55b2db95e3cfaa", func := "loop.example/g01218/laws.FnExactParentsOf", spec := "fnExactParentsOf", unfollowed := true, recurses := true, apart := false, narrowed := true }
def FnExactParentsOfUptoSaid : Prop := fnExactParentsOfUptoRow.holds Try.pinned (OpenSpec.upto fnExactParentsOfSpec)

/-- 'laws.FnExactDepthsOf', WHERE WHAT IT READS IS OF BULK AT MOST 1048576: true; the input reads as it did. -/
def fnExactDepthsOfUptoRow : OpenClaim := { program := "ytgajknnfmnnfeaa", sum := "f30b4cb517eb7313ab6645aae3d97624c5155fd528f10b0f8d55b2db95e3cfaa", func := "loop.example/g01218/laws.FnExactDepthsOf", spec := "fnExactDepthsOf", unfollowed := true, recurses := true, apart := false, narrowed := true }
def FnExactDepthsOfUptoSaid : Prop := fnExactDepthsOfUptoRow.holds Try.pinned (OpenSpec.upto fnExactDepthsOfSpec)

/-- 'laws.FnExactMirrorForest', WHERE WHAT IT READS IS OF BULK AT MOST 1048576: true; the input reads as it did. -/
def fnExactMirrorForestUptoRow : OpenClaim := { program := "ytgajknnfmnnfeaa", sum := "f30b4cb517eb7313ab6645aae3d97624c5155fd528f10b0f8d55b2db95e3cfaa", func := "loop.example/g01218/laws.FnExactMirrorForest", spec := "fnExactMirrorForest", unfollowed := true, recurses := true, apart := false, narrowed := true }
def FnExactMirrorForestUptoSaid : Prop := fnExactMirrorForestUptoRow.holds Try.pinned (OpenSpec.upto fnExactMirrorForestSpec)

/-- 'laws.FnExactPathOfTree', WHERE WHAT IT READS IS OF BULK AT MOST 1048576: true; the input reads as it did. -/
def fnExactPathOfTreeUptoRow : OpenClaim := { program := "ytgajknnfmnnfeaa", sum := "f30b4cb517eb7313ab6645aae3d97624c5155fd528f10b0f8d55b2db95e3cfaa", func := "loop.example/g01218/laws.FnExactPathOfTree", spec := "fnExactPathOfTree", unfollowed := true, recurses := true, apart := false, narrowed := true }
def FnExactPathOfTreeUptoSaid : Prop := fnExactPathOfTreeUptoRow.holds Try.pinned (OpenSpec.upto fnExactPathOfTreeSpec)

/-- 'laws.FnExactTreeOfPath', WHERE WHAT IT READS IS OF BULK AT MOST 1048576: true; the input reads as it did. -/
def fnExactTreeOfPathUptoRow : OpenClaim := { program := "ytgajknnfmnnfeaa", sum := "f30b4cb517eb7313ab6645aae3d97624c5155fd528f10b0f8d55b2db95e3cfaa", func := "loop.example/g01218/laws.FnExactTreeOfPath", spec := "fnExactTreeOfPath", unfollowed := true, recurses := true, apart := false, narrowed := true }
def FnExactTreeOfPathUptoSaid : Prop := fnExactTreeOfPathUptoRow.holds Try.pinned (OpenSpec.upto fnExactTreeOfPathSpec)

/-- 'laws.FnExactCountForests', WHERE WHAT IT READS IS OF BULK AT MOST 1048576: true; the input reads as it did. -/
def fnExactCountForestsUptoRow : OpenClaim := { program := "ytgajknnfmnnfeaa", sum := "f30b4cb517eb7313ab6645aae3d97624c5155fd528f10b0f8d55b2db95e3cfaa", func := "loop.example/g01218/laws.FnExactCountForests", spec := "fnExactCountForests", apart := false, narrowed := true }
def FnExactCountForestsUptoSaid : Prop := fnExactCountForestsUptoRow.holds Try.pinned (OpenSpec.upto fnExactCountForestsSpec)

/-- 'laws.FnExactFirstForest', WHERE WHAT IT READS IS OF BULK AT MOST 1048576: true; the input reads as it did. -/
def fnExactFirstForestUptoRow : OpenClaim := { program := "ytgajknnfmnnfeaa", sum := "f30b4cb517eb7313ab6645aae3d97624c5155fd528f10b0f8d55b2db95e3cfaa", func := "loop.example/g01218/laws.FnExactFirstForest", spec := "fnExactFirstForest", apart := false, narrowed := true }
def FnExactFirstForestUptoSaid : Prop := fnExactFirstForestUptoRow.holds Try.pinned (OpenSpec.upto fnExactFirstForestSpec)

/-- 'laws.FnExactAllTrees', WHERE WHAT IT READS IS OF BULK AT MOST 1048576: true; the input reads as it did. -/
def fnExactAllTreesUptoRow : OpenClaim := { program := "ytgajknnfmnnfeaa", sum := "f30b4cb517eb7313ab6645aae3d97624c5155fd528f10b0f8d55b2db95e3cfaa", func := "loop.example/g01218/laws.FnExactAllTrees", spec := "fnExactAllTrees", unfollowed := true, recurses := true, apart := false, narrowed := true }
def FnExactAllTreesUptoSaid : Prop := fnExactAllTreesUptoRow.holds Try.pinned (OpenSpec.upto fnExactAllTreesSpec)

/-- 'laws.FnExactRankOfTree', WHERE WHAT IT READS IS OF BULK AT MOST 1048576: true; the input reads as it did. -/
def fnExactRankOfTreeUptoRow : OpenClaim := { program := "ytgajknnfmnnfeaa", sum := "f30b4cb517eb7313ab6645aae3d97624c5155fd528f10b0f8d55b2db95e3cfaa", func := "loop.example/g01218/laws.FnExactRankOfTree", spec := "fnExactRankOfTree", apart := false, narrowed := true }
def FnExactRankOfTreeUptoSaid : Prop := fnExactRankOfTreeUptoRow.holds Try.pinned (OpenSpec.upto fnExactRankOfTreeSpec)

/-- 'laws.FnExactRatioRotations', WHERE WHAT IT READS IS OF BULK AT MOST 1048576: true; the input reads as it did. -/
def fnExactRatioRotationsUptoRow : OpenClaim := { program := "ytgajknnfmnnfeaa", sum := "f30b4cb517eb7313ab6645aae3d97624c5155fd528f10b0f8d55b2db95e3cfaa", func := "loop.example/g01218/laws.FnExactRatioRotations", spec := "fnExactRatioRotations", apart := false, narrowed := true }
def FnExactRatioRotationsUptoSaid : Prop := fnExactRatioRotationsUptoRow.holds Try.pinned (OpenSpec.upto fnExactRatioRotationsSpec)

end Rows
end Go.Proofs.Ytgajknnfmnnfeaa
