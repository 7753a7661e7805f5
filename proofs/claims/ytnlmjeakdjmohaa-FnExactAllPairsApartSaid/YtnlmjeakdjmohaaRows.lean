/-
  No cell of these rows narrows 'for every input' (looked for: loops, veiled, ifaces, maps, wideKeys, modest, calm, conditions, laid).
  DERIVED. THE GIVEN ROWS OF THIS SEAT. 18 by the template 'for every input the law returns true; each argument reads behind the call as it read before'; 0 by the template 'total and deterministic' (their statements: YtnlmjeakdjmohaaTotals.lean).
  GIVEN WITH THE SEED: the statements are not yours to turn. If you find one false, say at which input.
  Laid BY PROGRAM, IN A SANDBOX (cutbox-rows.mjs): the forced cells as the released guide's own fill.sh prints them over the translation 48194ca470870437… (all of the seat's roots in one cut). By AI agents, Wed Nov 11 2026. No macro, syntax, notation, axiom, sorry.
-/
import Derived.Test.YtnlmjeakdjmohaaChecked
import GoSem.Claim
import GoSem.ClaimJoined
import GoSem.ClaimMapViews
import Derived.JoinedTies
import Derived.KernelRfl
namespace Go.Proofs.Ytnlmjeakdjmohaa
/- THE CELL 'sum', in the pinned program and in every row, IS THE sha256 OF THE DUMP (.gsa) THAT YtnlmjeakdjmohaaProg.lean LOADS. Nothing in Lean hashes anything: it is a label: what it is worth is what the hold of that sum in a sandbox is worth. -/
noncomputable def Try.pinned : Pinned := { name := "ytnlmjeakdjmohaa", sum := "48194ca47087043794e5ac9e83da794baf9e9b50795bb7ad969ae28677ab7054", checked := Try.checked }
namespace Rows
def none {H : Type} : Left H := { results := [], args := [] }

/-- 'laws.FnExactFirstApart': WHATEVER THE INPUT: true; the input reads as it did. -/
def fnExactFirstApartSpec : ChangeSpec := { name := "fnExactFirstApart", fn := fun _ => fun
  | [d1, d2] => { results := [.lit (.bool true)], args := [d1, d2] }
  | _ => none }
def fnExactFirstApartRow : OpenClaim := { program := "ytnlmjeakdjmohaa", sum := "48194ca47087043794e5ac9e83da794baf9e9b50795bb7ad969ae28677ab7054", func := "loop.example/g01218/laws.FnExactFirstApart", spec := "fnExactFirstApart", unfollowed := true, recurses := true, apart := false }
def FnExactFirstApartSaid : Prop := fnExactFirstApartRow.holds Try.pinned (OpenSpec.ofChange fnExactFirstApartSpec)

/-- ITS FALSE NEIGHBOUR: 'it returns false'. Refute it at one input. -/
def fnExactFirstApartWrong : ChangeSpec := { name := "fnExactFirstApart", fn := fun _ => fun
  | [d1, d2] => { results := [.lit (.bool false)], args := [d1, d2] }
  | _ => none }
def FnExactFirstApartWrongFalsely : Prop := fnExactFirstApartRow.holds Try.pinned (OpenSpec.ofChange fnExactFirstApartWrong)

/-- 'laws.FnExactAllPairsApart': WHATEVER THE INPUT: true; the input reads as it did. -/
def fnExactAllPairsApartSpec : ChangeSpec := { name := "fnExactAllPairsApart", fn := fun _ => fun
  | [d1, d2, d3, d4] => { results := [.lit (.bool true)], args := [d1, d2, d3, d4] }
  | _ => none }
def fnExactAllPairsApartRow : OpenClaim := { program := "ytnlmjeakdjmohaa", sum := "48194ca47087043794e5ac9e83da794baf9e9b50795bb7ad969ae28677ab7054", func := "loop.example/g01218/laws.FnExactAllPairsApart", spec := "fnExactAllPairsApart", unfollowed := true, recurses := true, apart := false }
def FnExactAllPairsApartSaid : Prop := fnExactAllPairsApartRow.holds Try.pinned (OpenSpec.ofChange fnExactAllPairsApartSpec)

/-- ITS FALSE NEIGHBOUR: 'it returns false'. Refute it at one input. -/
def fnExactAllPairsApartWrong : ChangeSpec := { name := "fnExactAllPairsApart", fn := fun _ => fun
  | [d1, d2, d3, d4] => { results := [.lit (.bool false)], args := [d1, d2, d3, d4] }
  | _ => none }
def FnExactAllPairsApartWrongFalsely : Prop := fnExactAllPairsApartRow.holds Try.pinned (OpenSpec.ofChange fnExactAllPairsApartWrong)

/-- 'laws.FnExactCountByPeaks': WHATEVER THE INPUT: true; the input reads as it did. -/
def fnExactCountByPeaksSpec : ChangeSpec := { name := "fnExactCountByPeaks", fn := fun _ => fun
  | [d] => { results := [.lit (.bool true)], args := [d] }
  | _ => none }
def fnExactCountByPeaksRow : OpenClaim := { program := "ytnlmjeakdjmohaa", sum := "48194ca47087043794e5ac9e83da794baf9e9b50795bb7ad969ae28677ab7054", func := "loop.example/g01218/laws.FnExactCountByPeaks", spec := "fnExactCountByPeaks", apart := false }
def FnExactCountByPeaksSaid : Prop := fnExactCountByPeaksRow.holds Try.pinned (OpenSpec.ofChange fnExactCountByPeaksSpec)

/-- ITS FALSE NEIGHBOUR: 'it returns false'. Refute it at one input. -/
def fnExactCountByPeaksWrong : ChangeSpec := { name := "fnExactCountByPeaks", fn := fun _ => fun
  | [d] => { results := [.lit (.bool false)], args := [d] }
  | _ => none }
def FnExactCountByPeaksWrongFalsely : Prop := fnExactCountByPeaksRow.holds Try.pinned (OpenSpec.ofChange fnExactCountByPeaksWrong)

/-- 'laws.FnExactCountByHeight': WHATEVER THE INPUT: true; the input reads as it did. -/
def fnExactCountByHeightSpec : ChangeSpec := { name := "fnExactCountByHeight", fn := fun _ => fun
  | [d] => { results := [.lit (.bool true)], args := [d] }
  | _ => none }
def fnExactCountByHeightRow : OpenClaim := { program := "ytnlmjeakdjmohaa", sum := "48194ca47087043794e5ac9e83da794baf9e9b50795bb7ad969ae28677ab7054", func := "loop.example/g01218/laws.FnExactCountByHeight", spec := "fnExactCountByHeight", apart := false }
def FnExactCountByHeightSaid : Prop := fnExactCountByHeightRow.holds Try.pinned (OpenSpec.ofChange fnExactCountByHeightSpec)

/-- ITS FALSE NEIGHBOUR: 'it returns false'. Refute it at one input. -/
def fnExactCountByHeightWrong : ChangeSpec := { name := "fnExactCountByHeight", fn := fun _ => fun
  | [d] => { results := [.lit (.bool false)], args := [d] }
  | _ => none }
def FnExactCountByHeightWrongFalsely : Prop := fnExactCountByHeightRow.holds Try.pinned (OpenSpec.ofChange fnExactCountByHeightWrong)

/-- 'laws.FnExactCountByReturns': WHATEVER THE INPUT: true; the input reads as it did. -/
def fnExactCountByReturnsSpec : ChangeSpec := { name := "fnExactCountByReturns", fn := fun _ => fun
  | [d] => { results := [.lit (.bool true)], args := [d] }
  | _ => none }
def fnExactCountByReturnsRow : OpenClaim := { program := "ytnlmjeakdjmohaa", sum := "48194ca47087043794e5ac9e83da794baf9e9b50795bb7ad969ae28677ab7054", func := "loop.example/g01218/laws.FnExactCountByReturns", spec := "fnExactCountByReturns", apart := false }
def FnExactCountByReturnsSaid : Prop := fnExactCountByReturnsRow.holds Try.pinned (OpenSpec.ofChange fnExactCountByReturnsSpec)

/-- ITS FALSE NEIGHBOUR: 'it returns false'. Refute it at one input. -/
def fnExactCountByReturnsWrong : ChangeSpec := { name := "fnExactCountByReturns", fn := fun _ => fun
  | [d] => { results := [.lit (.bool false)], args := [d] }
  | _ => none }
def FnExactCountByReturnsWrongFalsely : Prop := fnExactCountByReturnsRow.holds Try.pinned (OpenSpec.ofChange fnExactCountByReturnsWrong)

/-- 'laws.FnExactCountByArea': WHATEVER THE INPUT: true; the input reads as it did. -/
def fnExactCountByAreaSpec : ChangeSpec := { name := "fnExactCountByArea", fn := fun _ => fun
  | [d] => { results := [.lit (.bool true)], args := [d] }
  | _ => none }
def fnExactCountByAreaRow : OpenClaim := { program := "ytnlmjeakdjmohaa", sum := "48194ca47087043794e5ac9e83da794baf9e9b50795bb7ad969ae28677ab7054", func := "loop.example/g01218/laws.FnExactCountByArea", spec := "fnExactCountByArea", apart := false }
def FnExactCountByAreaSaid : Prop := fnExactCountByAreaRow.holds Try.pinned (OpenSpec.ofChange fnExactCountByAreaSpec)

/-- ITS FALSE NEIGHBOUR: 'it returns false'. Refute it at one input. -/
def fnExactCountByAreaWrong : ChangeSpec := { name := "fnExactCountByArea", fn := fun _ => fun
  | [d] => { results := [.lit (.bool false)], args := [d] }
  | _ => none }
def FnExactCountByAreaWrongFalsely : Prop := fnExactCountByAreaRow.holds Try.pinned (OpenSpec.ofChange fnExactCountByAreaWrong)

/-- 'laws.FnExactCountByFirstRun': WHATEVER THE INPUT: true; the input reads as it did. -/
def fnExactCountByFirstRunSpec : ChangeSpec := { name := "fnExactCountByFirstRun", fn := fun _ => fun
  | [d] => { results := [.lit (.bool true)], args := [d] }
  | _ => none }
def fnExactCountByFirstRunRow : OpenClaim := { program := "ytnlmjeakdjmohaa", sum := "48194ca47087043794e5ac9e83da794baf9e9b50795bb7ad969ae28677ab7054", func := "loop.example/g01218/laws.FnExactCountByFirstRun", spec := "fnExactCountByFirstRun", apart := false }
def FnExactCountByFirstRunSaid : Prop := fnExactCountByFirstRunRow.holds Try.pinned (OpenSpec.ofChange fnExactCountByFirstRunSpec)

/-- ITS FALSE NEIGHBOUR: 'it returns false'. Refute it at one input. -/
def fnExactCountByFirstRunWrong : ChangeSpec := { name := "fnExactCountByFirstRun", fn := fun _ => fun
  | [d] => { results := [.lit (.bool false)], args := [d] }
  | _ => none }
def FnExactCountByFirstRunWrongFalsely : Prop := fnExactCountByFirstRunRow.holds Try.pinned (OpenSpec.ofChange fnExactCountByFirstRunWrong)

/-- 'laws.FnExactCountGoodClosed': WHATEVER THE INPUT: true; the input reads as it did. -/
def fnExactCountGoodClosedSpec : ChangeSpec := { name := "fnExactCountGoodClosed", fn := fun _ => fun
  | [d] => { results := [.lit (.bool true)], args := [d] }
  | _ => none }
def fnExactCountGoodClosedRow : OpenClaim := { program := "ytnlmjeakdjmohaa", sum := "48194ca47087043794e5ac9e83da794baf9e9b50795bb7ad969ae28677ab7054", func := "loop.example/g01218/laws.FnExactCountGoodClosed", spec := "fnExactCountGoodClosed", apart := false }
def FnExactCountGoodClosedSaid : Prop := fnExactCountGoodClosedRow.holds Try.pinned (OpenSpec.ofChange fnExactCountGoodClosedSpec)

/-- ITS FALSE NEIGHBOUR: 'it returns false'. Refute it at one input. -/
def fnExactCountGoodClosedWrong : ChangeSpec := { name := "fnExactCountGoodClosed", fn := fun _ => fun
  | [d] => { results := [.lit (.bool false)], args := [d] }
  | _ => none }
def FnExactCountGoodClosedWrongFalsely : Prop := fnExactCountGoodClosedRow.holds Try.pinned (OpenSpec.ofChange fnExactCountGoodClosedWrong)

/-- 'laws.FnExactSumOfAreas': WHATEVER THE INPUT: true; the input reads as it did. -/
def fnExactSumOfAreasSpec : ChangeSpec := { name := "fnExactSumOfAreas", fn := fun _ => fun
  | [d] => { results := [.lit (.bool true)], args := [d] }
  | _ => none }
def fnExactSumOfAreasRow : OpenClaim := { program := "ytnlmjeakdjmohaa", sum := "48194ca47087043794e5ac9e83da794baf9e9b50795bb7ad969ae28677ab7054", func := "loop.example/g01218/laws.FnExactSumOfAreas", spec := "fnExactSumOfAreas", apart := false }
def FnExactSumOfAreasSaid : Prop := fnExactSumOfAreasRow.holds Try.pinned (OpenSpec.ofChange fnExactSumOfAreasSpec)

/-- ITS FALSE NEIGHBOUR: 'it returns false'. Refute it at one input. -/
def fnExactSumOfAreasWrong : ChangeSpec := { name := "fnExactSumOfAreas", fn := fun _ => fun
  | [d] => { results := [.lit (.bool false)], args := [d] }
  | _ => none }
def FnExactSumOfAreasWrongFalsely : Prop := fnExactSumOfAreasRow.holds Try.pinned (OpenSpec.ofChange fnExactSumOfAreasWrong)

/-- 'laws.FnExactSumOfHighest': WHATEVER THE INPUT: true; the input reads as it did. -/
def fnExactSumOfHighestSpec : ChangeSpec := { name := "fnExactSumOfHighest", fn := fun _ => fun
  | [d] => { results := [.lit (.bool true)], args := [d] }
  | _ => none }
def fnExactSumOfHighestRow : OpenClaim := { program := "ytnlmjeakdjmohaa", sum := "48194ca47087043794e5ac9e83da794baf9e9b50795bb7ad969ae28677ab7054", func := "loop.example/g01218/laws.FnExactSumOfHighest", spec := "fnExactSumOfHighest", apart := false }
def FnExactSumOfHighestSaid : Prop := fnExactSumOfHighestRow.holds Try.pinned (OpenSpec.ofChange fnExactSumOfHighestSpec)

/-- ITS FALSE NEIGHBOUR: 'it returns false'. Refute it at one input. -/
def fnExactSumOfHighestWrong : ChangeSpec := { name := "fnExactSumOfHighest", fn := fun _ => fun
  | [d] => { results := [.lit (.bool false)], args := [d] }
  | _ => none }
def FnExactSumOfHighestWrongFalsely : Prop := fnExactSumOfHighestRow.holds Try.pinned (OpenSpec.ofChange fnExactSumOfHighestWrong)

/-- 'laws.FnExactRecordsOfPath': WHATEVER THE INPUT: true; the input reads as it did. -/
def fnExactRecordsOfPathSpec : ChangeSpec := { name := "fnExactRecordsOfPath", fn := fun _ => fun
  | [d] => { results := [.lit (.bool true)], args := [d] }
  | _ => none }
def fnExactRecordsOfPathRow : OpenClaim := { program := "ytnlmjeakdjmohaa", sum := "48194ca47087043794e5ac9e83da794baf9e9b50795bb7ad969ae28677ab7054", func := "loop.example/g01218/laws.FnExactRecordsOfPath", spec := "fnExactRecordsOfPath", apart := false }
def FnExactRecordsOfPathSaid : Prop := fnExactRecordsOfPathRow.holds Try.pinned (OpenSpec.ofChange fnExactRecordsOfPathSpec)

/-- ITS FALSE NEIGHBOUR: 'it returns false'. Refute it at one input. -/
def fnExactRecordsOfPathWrong : ChangeSpec := { name := "fnExactRecordsOfPath", fn := fun _ => fun
  | [d] => { results := [.lit (.bool false)], args := [d] }
  | _ => none }
def FnExactRecordsOfPathWrongFalsely : Prop := fnExactRecordsOfPathRow.holds Try.pinned (OpenSpec.ofChange fnExactRecordsOfPathWrong)

/-- 'laws.FnExactCountByRecords': WHATEVER THE INPUT: true; the input reads as it did. -/
def fnExactCountByRecordsSpec : ChangeSpec := { name := "fnExactCountByRecords", fn := fun _ => fun
  | [d] => { results := [.lit (.bool true)], args := [d] }
  | _ => none }
def fnExactCountByRecordsRow : OpenClaim := { program := "ytnlmjeakdjmohaa", sum := "48194ca47087043794e5ac9e83da794baf9e9b50795bb7ad969ae28677ab7054", func := "loop.example/g01218/laws.FnExactCountByRecords", spec := "fnExactCountByRecords", apart := false }
def FnExactCountByRecordsSaid : Prop := fnExactCountByRecordsRow.holds Try.pinned (OpenSpec.ofChange fnExactCountByRecordsSpec)

/-- ITS FALSE NEIGHBOUR: 'it returns false'. Refute it at one input. -/
def fnExactCountByRecordsWrong : ChangeSpec := { name := "fnExactCountByRecords", fn := fun _ => fun
  | [d] => { results := [.lit (.bool false)], args := [d] }
  | _ => none }
def FnExactCountByRecordsWrongFalsely : Prop := fnExactCountByRecordsRow.holds Try.pinned (OpenSpec.ofChange fnExactCountByRecordsWrong)

/-- 'laws.FnExactStepsAbove': WHATEVER THE INPUT: true; the input reads as it did. -/
def fnExactStepsAboveSpec : ChangeSpec := { name := "fnExactStepsAbove", fn := fun _ => fun
  | [d] => { results := [.lit (.bool true)], args := [d] }
  | _ => none }
def fnExactStepsAboveRow : OpenClaim := { program := "ytnlmjeakdjmohaa", sum := "48194ca47087043794e5ac9e83da794baf9e9b50795bb7ad969ae28677ab7054", func := "loop.example/g01218/laws.FnExactStepsAbove", spec := "fnExactStepsAbove", apart := false }
def FnExactStepsAboveSaid : Prop := fnExactStepsAboveRow.holds Try.pinned (OpenSpec.ofChange fnExactStepsAboveSpec)

/-- ITS FALSE NEIGHBOUR: 'it returns false'. Refute it at one input. -/
def fnExactStepsAboveWrong : ChangeSpec := { name := "fnExactStepsAbove", fn := fun _ => fun
  | [d] => { results := [.lit (.bool false)], args := [d] }
  | _ => none }
def FnExactStepsAboveWrongFalsely : Prop := fnExactStepsAboveRow.holds Try.pinned (OpenSpec.ofChange fnExactStepsAboveWrong)

/-- 'laws.FnExactCountByAbove': WHATEVER THE INPUT: true; the input reads as it did. -/
def fnExactCountByAboveSpec : ChangeSpec := { name := "fnExactCountByAbove", fn := fun _ => fun
  | [d] => { results := [.lit (.bool true)], args := [d] }
  | _ => none }
def fnExactCountByAboveRow : OpenClaim := { program := "ytnlmjeakdjmohaa", sum := "48194ca47087043794e5ac9e83da794baf9e9b50795bb7ad969ae28677ab7054", func := "loop.example/g01218/laws.FnExactCountByAbove", spec := "fnExactCountByAbove", apart := false }
def FnExactCountByAboveSaid : Prop := fnExactCountByAboveRow.holds Try.pinned (OpenSpec.ofChange fnExactCountByAboveSpec)

/-- ITS FALSE NEIGHBOUR: 'it returns false'. Refute it at one input. -/
def fnExactCountByAboveWrong : ChangeSpec := { name := "fnExactCountByAbove", fn := fun _ => fun
  | [d] => { results := [.lit (.bool false)], args := [d] }
  | _ => none }
def FnExactCountByAboveWrongFalsely : Prop := fnExactCountByAboveRow.holds Try.pinned (OpenSpec.ofChange fnExactCountByAboveWrong)

/-- 'laws.FnExactLastReturn': WHATEVER THE INPUT: true; the input reads as it did. -/
def fnExactLastReturnSpec : ChangeSpec := { name := "fnExactLastReturn", fn := fun _ => fun
  | [d] => { results := [.lit (.bool true)], args := [d] }
  | _ => none }
def fnExactLastReturnRow : OpenClaim := { program := "ytnlmjeakdjmohaa", sum := "48194ca47087043794e5ac9e83da794baf9e9b50795bb7ad969ae28677ab7054", func := "loop.example/g01218/laws.FnExactLastReturn", spec := "fnExactLastReturn", unfollowed := true, recurses := true, apart := false }
def FnExactLastReturnSaid : Prop := fnExactLastReturnRow.holds Try.pinned (OpenSpec.ofChange fnExactLastReturnSpec)

/-- ITS FALSE NEIGHBOUR: 'it returns false'. Refute it at one input. -/
def fnExactLastReturnWrong : ChangeSpec := { name := "fnExactLastReturn", fn := fun _ => fun
  | [d] => { results := [.lit (.bool false)], args := [d] }
  | _ => none }
def FnExactLastReturnWrongFalsely : Prop := fnExactLastReturnRow.holds Try.pinned (OpenSpec.ofChange fnExactLastReturnWrong)

/-- 'laws.FnExactCountByLastReturn': WHATEVER THE INPUT: true; the input reads as it did. -/
def fnExactCountByLastReturnSpec : ChangeSpec := { name := "fnExactCountByLastReturn", fn := fun _ => fun
  | [d] => { results := [.lit (.bool true)], args := [d] }
  | _ => none }
def fnExactCountByLastReturnRow : OpenClaim := { program := "ytnlmjeakdjmohaa", sum := "48194ca47087043794e5ac9e83da794baf9e9b50795bb7ad969ae28677ab7054", func := "loop.example/g01218/laws.FnExactCountByLastReturn", spec := "fnExactCountByLastReturn", apart := false }
def FnExactCountByLastReturnSaid : Prop := fnExactCountByLastReturnRow.holds Try.pinned (OpenSpec.ofChange fnExactCountByLastReturnSpec)

/-- ITS FALSE NEIGHBOUR: 'it returns false'. Refute it at one input. -/
def fnExactCountByLastReturnWrong : ChangeSpec := { name := "fnExactCountByLastReturn", fn := fun _ => fun
  | [d] => { results := [.lit (.bool false)], args := [d] }
  | _ => none }
def FnExactCountByLastReturnWrongFalsely : Prop := fnExactCountByLastReturnRow.holds Try.pinned (OpenSpec.ofChange fnExactCountByLastReturnWrong)

/-- 'laws.FnExactCountNeverBack': WHATEVER THE INPUT: true; the input reads as it did. -/
def fnExactCountNeverBackSpec : ChangeSpec := { name := "fnExactCountNeverBack", fn := fun _ => fun
  | [d] => { results := [.lit (.bool true)], args := [d] }
  | _ => none }
def fnExactCountNeverBackRow : OpenClaim := { program := "ytnlmjeakdjmohaa", sum := "48194ca47087043794e5ac9e83da794baf9e9b50795bb7ad969ae28677ab7054", func := "loop.example/g01218/laws.FnExactCountNeverBack", spec := "fnExactCountNeverBack", apart := false }
def FnExactCountNeverBackSaid : Prop := fnExactCountNeverBackRow.holds Try.pinned (OpenSpec.ofChange fnExactCountNeverBackSpec)

/-- ITS FALSE NEIGHBOUR: 'it returns false'. Refute it at one input. -/
def fnExactCountNeverBackWrong : ChangeSpec := { name := "fnExactCountNeverBack", fn := fun _ => fun
  | [d] => { results := [.lit (.bool false)], args := [d] }
  | _ => none }
def FnExactCountNeverBackWrongFalsely : Prop := fnExactCountNeverBackRow.holds Try.pinned (OpenSpec.ofChange fnExactCountNeverBackWrong)

/-- 'laws.FnExactAreaIndex': WHATEVER THE INPUT: true; the input reads as it did. -/
def fnExactAreaIndexSpec : ChangeSpec := { name := "fnExactAreaIndex", fn := fun _ => fun
  | [d] => { results := [.lit (.bool true)], args := [d] }
  | _ => none }
def fnExactAreaIndexRow : OpenClaim := { program := "ytnlmjeakdjmohaa", sum := "48194ca47087043794e5ac9e83da794baf9e9b50795bb7ad969ae28677ab7054", func := "loop.example/g01218/laws.FnExactAreaIndex", spec := "fnExactAreaIndex", apart := false }
def FnExactAreaIndexSaid : Prop := fnExactAreaIndexRow.holds Try.pinned (OpenSpec.ofChange fnExactAreaIndexSpec)

/-- ITS FALSE NEIGHBOUR: 'it returns false'. Refute it at one input. -/
def fnExactAreaIndexWrong : ChangeSpec := { name := "fnExactAreaIndex", fn := fun _ => fun
  | [d] => { results := [.lit (.bool false)], args := [d] }
  | _ => none }
def FnExactAreaIndexWrongFalsely : Prop := fnExactAreaIndexRow.holds Try.pinned (OpenSpec.ofChange fnExactAreaIndexWrong)

/- THE SECOND FORM. 'bulk': how many values and letters a reading holds, each counted each time it is reached (what is shared counts as often as it is met; a slice's spare places count too). A statement '..UptoSaid' is the law's where the arguments, and the package variables that the reading takes, are together of bulk at most 1048576: NARROWER than '..Said'. Prove '..Said' where nothing that the law and all that it calls make is longer than what came in: it says more and counts as full. Else prove '..UptoSaid'. A law counts once. -/
mutual
def uptoBulk {H : Type} : DataW H → Nat
  | .lit (.string bytes) => bytes.length + 1
  | .lit _ => 1
  | .nil => 1
  | .ptr d => uptoBulk d + 1
  | .slice elems spare => uptoBulkAll elems + uptoBulkAll spare + 1
  | .agg parts => uptoBulkAll parts + 1
  | .iface _ d => uptoBulk d + 1
  | .map entries => uptoBulkEntries entries + 1
  | .held _ => 1
def uptoBulkAll {H : Type} : List (DataW H) → Nat
  | [] => 0
  | d :: r => uptoBulk d + uptoBulkAll r
def uptoBulkEntries {H : Type} : List (Lit × DataW H) → Nat
  | [] => 0
  | x :: r => uptoBulkEntry x + uptoBulkEntries r
def uptoBulkEntry {H : Type} : Lit × DataW H → Nat
  | (.string bytes, d) => bytes.length + uptoBulk d + 1
  | (_, d) => uptoBulk d + 1
 end
def uptoSmall : (H : Type) → List (DataW H) → Bool := fun _ ds => decide (uptoBulkAll ds ≤ 1048576)
def OpenSpec.upto (s : _root_.Go.ChangeSpec) : _root_.Go.OpenSpec := { _root_.Go.OpenSpec.ofChange s with cond := some uptoSmall }

/-- 'laws.FnExactFirstApart', WHERE WHAT IT READS IS OF BULK AT MOST 1048576: true; the input reads as it did. -/
def fnExactFirstApartUptoRow : OpenClaim := { program := "ytnlmjeakdjmohaa", sum := "48194ca47087043794e5ac9e83da794baf9e9b50795bb7ad969ae28677ab7054", func := "loop.example/g01218/laws.FnExactFirstApart", spec := "fnExactFirstApart", unfollowed := true, recurses := true, apart := false, narrowed := true }
def FnExactFirstApartUptoSaid : Prop := fnExactFirstApartUptoRow.holds Try.pinned (OpenSpec.upto fnExactFirstApartSpec)

/-- 'laws.FnExactAllPairsApart', WHERE WHAT IT READS IS OF BULK AT MOST 1048576: true; the input reads as it did. -/
def fnExactAllPairsApartUptoRow : OpenClaim := { program := "ytnlmjeakdjmohaa", sum := "48194ca47087043794e5ac9e83da794baf9e9b50795bb7ad969ae28677ab7054", func := "loop.example/g01218/laws.FnExactAllPairsApart", spec := "fnExactAllPairsApart", unfollowed := true, recurses := true, apart := false, narrowed := true }
def FnExactAllPairsApartUptoSaid : Prop := fnExactAllPairsApartUptoRow.holds Try.pinned (OpenSpec.upto fnExactAllPairsApartSpec)

/-- 'laws.FnExactCountByPeaks', WHERE WHAT IT READS IS OF BULK AT MOST 1048576: true; the input reads as it did. -/
def fnExactCountByPeaksUptoRow : OpenClaim := { program := "ytnlmjeakdjmohaa", sum := "48194ca47087043794e5ac9e83da794baf9e9b50795bb7ad969ae28677ab7054", func := "loop.example/g01218/laws.FnExactCountByPeaks", spec := "fnExactCountByPeaks", apart := false, narrowed := true }
def FnExactCountByPeaksUptoSaid : Prop := fnExactCountByPeaksUptoRow.holds Try.pinned (OpenSpec.upto fnExactCountByPeaksSpec)

/-- 'laws.FnExactCountByHeight', WHERE WHAT IT READS IS OF BULK AT MOST 1048576: true; the input reads as it did. -/
def fnExactCountByHeightUptoRow : OpenClaim := { program := "ytnlmjeakdjmohaa", sum := "48194ca47087043794e5ac9e83da794baf9e9b50795bb7ad969ae28677ab7054", func := "loop.example/g01218/laws.FnExactCountByHeight", spec := "fnExactCountByHeight", apart := false, narrowed := true }
def FnExactCountByHeightUptoSaid : Prop := fnExactCountByHeightUptoRow.holds Try.pinned (OpenSpec.upto fnExactCountByHeightSpec)

/-- 'laws.FnExactCountByReturns', WHERE WHAT IT READS IS OF BULK AT MOST 1048576: true; the input reads as it did. -/
def fnExactCountByReturnsUptoRow : OpenClaim := { program := "ytnlmjeakdjmohaa", sum := "48194ca47087043794e5ac9e83da794baf9e9b50795bb7ad969ae28677ab7054", func := "loop.example/g01218/laws.FnExactCountByReturns", spec := "fnExactCountByReturns", apart := false, narrowed := true }
def FnExactCountByReturnsUptoSaid : Prop := fnExactCountByReturnsUptoRow.holds Try.pinned (OpenSpec.upto fnExactCountByReturnsSpec)

/-- 'laws.FnExactCountByArea', WHERE WHAT IT READS IS OF BULK AT MOST 1048576: true; the input reads as it did. -/
def fnExactCountByAreaUptoRow : OpenClaim := { program := "ytnlmjeakdjmohaa", sum := "48194ca47087043794e5ac9e83da794baf9e9b50795bb7ad969ae28677ab7054", func := "loop.example/g01218/laws.FnExactCountByArea", spec := "fnExactCountByArea", apart := false, narrowed := true }
def FnExactCountByAreaUptoSaid : Prop := fnExactCountByAreaUptoRow.holds Try.pinned (OpenSpec.upto fnExactCountByAreaSpec)

/-- 'laws.FnExactCountByFirstRun', WHERE WHAT IT READS IS OF BULK AT MOST 1048576: true; the input reads as it did. -/
def fnExactCountByFirstRunUptoRow : OpenClaim := { program := "ytnlmjeakdjmohaa", sum := "48194ca47087043794e5ac9e83da794baf9e9b50795bb7ad969ae28677ab7054", func := "loop.example/g01218/laws.FnExactCountByFirstRun", spec := "fnExactCountByFirstRun", apart := false, narrowed := true }
def FnExactCountByFirstRunUptoSaid : Prop := fnExactCountByFirstRunUptoRow.holds Try.pinned (OpenSpec.upto fnExactCountByFirstRunSpec)

/-- 'laws.FnExactCountGoodClosed', WHERE WHAT IT READS IS OF BULK AT MOST 1048576: true; the input reads as it did. -/
def fnExactCountGoodClosedUptoRow : OpenClaim := { program := "ytnlmjeakdjmohaa", sum := "48194ca47087043794e5ac9e83da794baf9e9b50795bb7ad969ae28677ab7054", func := "loop.example/g01218/laws.FnExactCountGoodClosed", spec := "fnExactCountGoodClosed", apart := false, narrowed := true }
def FnExactCountGoodClosedUptoSaid : Prop := fnExactCountGoodClosedUptoRow.holds Try.pinned (OpenSpec.upto fnExactCountGoodClosedSpec)

/-- 'laws.FnExactSumOfAreas', WHERE WHAT IT READS IS OF BULK AT MOST 1048576: true; the input reads as it did. -/
def fnExactSumOfAreasUptoRow : OpenClaim := { program := "ytnlmjeakdjmohaa", sum := "48194ca47087043794e5ac9e83da794baf9e9b50795bb7ad969ae28677ab7054", func := "loop.example/g01218/laws.FnExactSumOfAreas", spec := "fnExactSumOfAreas", apart := false, narrowed := true }
def FnExactSumOfAreasUptoSaid : Prop := fnExactSumOfAreasUptoRow.holds Try.pinned (OpenSpec.upto fnExactSumOfAreasSpec)

/-- 'laws.FnExactSumOfHighest', WHERE WHAT IT READS IS OF BULK AT MOST 1048576: true; the input reads as it did. -/
def fnExactSumOfHighestUptoRow : OpenClaim := { program := "ytnlmjeakdjmohaa", sum := "48194ca47087043794e5ac9e83da794baf9e9b50795bb7ad969ae28677ab7054", func := "loop.example/g01218/laws.FnExactSumOfHighest", spec := "fnExactSumOfHighest", apart := false, narrowed := true }
def FnExactSumOfHighestUptoSaid : Prop := fnExactSumOfHighestUptoRow.holds Try.pinned (OpenSpec.upto fnExactSumOfHighestSpec)

/-- 'laws.FnExactRecordsOfPath', WHERE WHAT IT READS IS OF BULK AT MOST 1048576: true; the input reads as it did. -/
def fnExactRecordsOfPathUptoRow : OpenClaim := { program := "ytnlmjeakdjmohaa", sum := "48194ca47087043794e5ac9e83da794baf9e9b50795bb7ad969ae28677ab7054", func := "loop.example/g01218/laws.FnExactRecordsOfPath", spec := "fnExactRecordsOfPath", apart := false, narrowed := true }
def FnExactRecordsOfPathUptoSaid : Prop := fnExactRecordsOfPathUptoRow.holds Try.pinned (OpenSpec.upto fnExactRecordsOfPathSpec)

/-- 'laws.FnExactCountByRecords', WHERE WHAT IT READS IS OF BULK AT MOST 1048576: true; the input reads as it did. -/
def fnExactCountByRecordsUptoRow : OpenClaim := { program := "ytnlmjeakdjmohaa", sum := "48194ca47087043794e5ac9e83da794baf9e9b50795bb7ad969ae28677ab7054", func := "loop.example/g01218/laws.FnExactCountByRecords", spec := "fnExactCountByRecords", apart := false, narrowed := true }
def FnExactCountByRecordsUptoSaid : Prop := fnExactCountByRecordsUptoRow.holds Try.pinned (OpenSpec.upto fnExactCountByRecordsSpec)

/-- 'laws.FnExactStepsAbove', WHERE WHAT IT READS IS OF BULK AT MOST 1048576: true; the input reads as it did. -/
def fnExactStepsAboveUptoRow : OpenClaim := { program := "ytnlmjeakdjmohaa", sum := "48194ca47087043794e5ac9e83da794baf9e9b50795bb7ad969ae28677ab7054", func := "loop.example/g01218/laws.FnExactStepsAbove", spec := "fnExactStepsAbove", apart := false, narrowed := true }
def FnExactStepsAboveUptoSaid : Prop := fnExactStepsAboveUptoRow.holds Try.pinned (OpenSpec.upto fnExactStepsAboveSpec)

/-- 'laws.FnExactCountByAbove', WHERE WHAT IT READS IS OF BULK AT MOST 1048576: true; the input reads as it did. -/
def fnExactCountByAboveUptoRow : OpenClaim := { program := "ytnlmjeakdjmohaa", sum := "48194ca47087043794e5ac9e83da794baf9e9b50795bb7ad969ae28677ab7054", func := "loop.example/g01218/laws.FnExactCountByAbove", spec := "fnExactCountByAbove", apart := false, narrowed := true }
def FnExactCountByAboveUptoSaid : Prop := fnExactCountByAboveUptoRow.holds Try.pinned (OpenSpec.upto fnExactCountByAboveSpec)

/-- 'laws.FnExactLastReturn', WHERE WHAT IT READS IS OF BULK AT MOST 1048576: true; the input reads as it did. -/
def fnExactLastReturnUptoRow : OpenClaim := { program := "ytnlmjeakdjmohaa", sum := "48194ca47087043794e5ac9e83da794baf9e9b50795bb7ad969ae28677ab7054", func := "loop.example/g01218/laws.FnExactLastReturn", spec := "fnExactLastReturn", unfollowed := true, recurses := true, apart := false, narrowed := true }
def FnExactLastReturnUptoSaid : Prop := fnExactLastReturnUptoRow.holds Try.pinned (OpenSpec.upto fnExactLastReturnSpec)

/-- 'laws.FnExactCountByLastReturn', WHERE WHAT IT READS IS OF BULK AT MOST 1048576: true; the input reads as it did. -/
def fnExactCountByLastReturnUptoRow : OpenClaim := { program := "ytnlmjeakdjmohaa", sum := "48194ca47087043794e5ac9e83da794baf9e9b50795bb7ad969ae28677ab7054", func := "loop.example/g01218/laws.FnExactCountByLastReturn", spec := "fnExactCountByLastReturn", apart := false, narrowed := true }
def FnExactCountByLastReturnUptoSaid : Prop := fnExactCountByLastReturnUptoRow.holds Try.pinned (OpenSpec.upto fnExactCountByLastReturnSpec)

/-- 'laws.FnExactCountNeverBack', WHERE WHAT IT READS IS OF BULK AT MOST 1048576: true; the input reads as it did. -/
def fnExactCountNeverBackUptoRow : OpenClaim := { program := "ytnlmjeakdjmohaa", sum := "48194ca47087043794e5ac9e83da794baf9e9b50795bb7ad969ae28677ab7054", func := "loop.example/g01218/laws.FnExactCountNeverBack", spec := "fnExactCountNeverBack", apart := false, narrowed := true }
def FnExactCountNeverBackUptoSaid : Prop := fnExactCountNeverBackUptoRow.holds Try.pinned (OpenSpec.upto fnExactCountNeverBackSpec)

/-- 'laws.FnExactAreaIndex', WHERE WHAT IT READS IS OF BULK AT MOST 1048576: true; the input reads as it did. -/
def fnExactAreaIndexUptoRow : OpenClaim := { program := "ytnlmjeakdjmohaa", sum := "48194ca47087043794e5ac9e83da794baf9e9b50795bb7ad969ae28677ab7054", func := "loop.example/g01218/laws.FnExactAreaIndex", spec := "fnExactAreaIndex", apart := false, narrowed := true }
def FnExactAreaIndexUptoSaid : Prop := fnExactAreaIndexUptoRow.holds Try.pinned (OpenSpec.upto fnExactAreaIndexSpec)

end Rows
end Go.Proofs.Ytnlmjeakdjmohaa
