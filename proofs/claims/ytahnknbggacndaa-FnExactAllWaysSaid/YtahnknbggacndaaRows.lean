/-
  No cell of these rows narrows 'for every input' (looked for: loops, veiled, ifaces, maps, wideKeys, modest, calm, conditions, laid).
  DERIVED. THE GIVEN ROWS OF THIS SEAT. 17 by the template 'for every input the law returns true; each argument reads behind the call as it read before'; 0 by the template 'total and deterministic' (their statements: YtahnknbggacndaaTotals.lean).
  GIVEN WITH THE SEED: the statements are not yours to turn. If you find one false, say at which input.
  Laid BY PROGRAM, IN A SANDBOX (cutbox-rows.mjs): the forced cells as the released guide's own fill.sh prints them over the translation d62ae560cbe0c568… (all of the seat's roots in one cut). By AI agents, Wed Nov 11 2026. No macro, syntax, notation, axiom, sorry.
-/
import Derived.Test.YtahnknbggacndaaChecked
import GoSem.Claim
import GoSem.ClaimJoined
import GoSem.ClaimMapViews
import Derived.JoinedTies
import Derived.KernelRfl
namespace Go.Proofs.Ytahnknbggacndaa
/- THE CELL 'sum', in the pinned program and in every row, IS THE sha256 OF THE DUMP (.gsa) THAT YtahnknbggacndaaProg.lean LOADS. Nothing in Lean hashes anything: it is a label: what it is worth is what the hold of that sum in a sandbox is worth. -/
noncomputable def Try.pinned : Pinned := { name := "ytahnknbggacndaa", sum := "d62ae560cbe0c5682d62c9f73f2149032c806aba63669222ec2fb81c4493e899", checked := Try.checked }
namespace Rows
def none {H : Type} : Left H := { results := [], args := [] }

/-- 'laws.FnExactIsCell': WHATEVER THE INPUT: true; the input reads as it did. -/
def fnExactIsCellSpec : ChangeSpec := { name := "fnExactIsCell", fn := fun _ => fun
  | [d] => { results := [.lit (.bool true)], args := [d] }
  | _ => none }
def fnExactIsCellRow : OpenClaim := { program := "ytahnknbggacndaa", sum := "d62ae560cbe0c5682d62c9f73f2149032c806aba63669222ec2fb81c4493e899", func := "loop.example/g01218/laws.FnExactIsCell", spec := "fnExactIsCell", apart := false }
def FnExactIsCellSaid : Prop := fnExactIsCellRow.holds Try.pinned (OpenSpec.ofChange fnExactIsCellSpec)

/-- ITS FALSE NEIGHBOUR: 'it returns false'. Refute it at one input. -/
def fnExactIsCellWrong : ChangeSpec := { name := "fnExactIsCell", fn := fun _ => fun
  | [d] => { results := [.lit (.bool false)], args := [d] }
  | _ => none }
def FnExactIsCellWrongFalsely : Prop := fnExactIsCellRow.holds Try.pinned (OpenSpec.ofChange fnExactIsCellWrong)

/-- 'laws.FnExactIsWay': WHATEVER THE INPUT: true; the input reads as it did. -/
def fnExactIsWaySpec : ChangeSpec := { name := "fnExactIsWay", fn := fun _ => fun
  | [d] => { results := [.lit (.bool true)], args := [d] }
  | _ => none }
def fnExactIsWayRow : OpenClaim := { program := "ytahnknbggacndaa", sum := "d62ae560cbe0c5682d62c9f73f2149032c806aba63669222ec2fb81c4493e899", func := "loop.example/g01218/laws.FnExactIsWay", spec := "fnExactIsWay", unfollowed := true, recurses := true, apart := false }
def FnExactIsWaySaid : Prop := fnExactIsWayRow.holds Try.pinned (OpenSpec.ofChange fnExactIsWaySpec)

/-- ITS FALSE NEIGHBOUR: 'it returns false'. Refute it at one input. -/
def fnExactIsWayWrong : ChangeSpec := { name := "fnExactIsWay", fn := fun _ => fun
  | [d] => { results := [.lit (.bool false)], args := [d] }
  | _ => none }
def FnExactIsWayWrongFalsely : Prop := fnExactIsWayRow.holds Try.pinned (OpenSpec.ofChange fnExactIsWayWrong)

/-- 'laws.FnExactCellsOfWay': WHATEVER THE INPUT: true; the input reads as it did. -/
def fnExactCellsOfWaySpec : ChangeSpec := { name := "fnExactCellsOfWay", fn := fun _ => fun
  | [d] => { results := [.lit (.bool true)], args := [d] }
  | _ => none }
def fnExactCellsOfWayRow : OpenClaim := { program := "ytahnknbggacndaa", sum := "d62ae560cbe0c5682d62c9f73f2149032c806aba63669222ec2fb81c4493e899", func := "loop.example/g01218/laws.FnExactCellsOfWay", spec := "fnExactCellsOfWay", unfollowed := true, recurses := true, apart := false }
def FnExactCellsOfWaySaid : Prop := fnExactCellsOfWayRow.holds Try.pinned (OpenSpec.ofChange fnExactCellsOfWaySpec)

/-- ITS FALSE NEIGHBOUR: 'it returns false'. Refute it at one input. -/
def fnExactCellsOfWayWrong : ChangeSpec := { name := "fnExactCellsOfWay", fn := fun _ => fun
  | [d] => { results := [.lit (.bool false)], args := [d] }
  | _ => none }
def FnExactCellsOfWayWrongFalsely : Prop := fnExactCellsOfWayRow.holds Try.pinned (OpenSpec.ofChange fnExactCellsOfWayWrong)

/-- 'laws.FnExactEndOfWay': WHATEVER THE INPUT: true; the input reads as it did. -/
def fnExactEndOfWaySpec : ChangeSpec := { name := "fnExactEndOfWay", fn := fun _ => fun
  | [d] => { results := [.lit (.bool true)], args := [d] }
  | _ => none }
def fnExactEndOfWayRow : OpenClaim := { program := "ytahnknbggacndaa", sum := "d62ae560cbe0c5682d62c9f73f2149032c806aba63669222ec2fb81c4493e899", func := "loop.example/g01218/laws.FnExactEndOfWay", spec := "fnExactEndOfWay", unfollowed := true, recurses := true, apart := false }
def FnExactEndOfWaySaid : Prop := fnExactEndOfWayRow.holds Try.pinned (OpenSpec.ofChange fnExactEndOfWaySpec)

/-- ITS FALSE NEIGHBOUR: 'it returns false'. Refute it at one input. -/
def fnExactEndOfWayWrong : ChangeSpec := { name := "fnExactEndOfWay", fn := fun _ => fun
  | [d] => { results := [.lit (.bool false)], args := [d] }
  | _ => none }
def FnExactEndOfWayWrongFalsely : Prop := fnExactEndOfWayRow.holds Try.pinned (OpenSpec.ofChange fnExactEndOfWayWrong)

/-- 'laws.FnExactCountWays': WHATEVER THE INPUT: true; the input reads as it did. -/
def fnExactCountWaysSpec : ChangeSpec := { name := "fnExactCountWays", fn := fun _ => fun
  | [d1, d2] => { results := [.lit (.bool true)], args := [d1, d2] }
  | _ => none }
def fnExactCountWaysRow : OpenClaim := { program := "ytahnknbggacndaa", sum := "d62ae560cbe0c5682d62c9f73f2149032c806aba63669222ec2fb81c4493e899", func := "loop.example/g01218/laws.FnExactCountWays", spec := "fnExactCountWays", apart := false }
def FnExactCountWaysSaid : Prop := fnExactCountWaysRow.holds Try.pinned (OpenSpec.ofChange fnExactCountWaysSpec)

/-- ITS FALSE NEIGHBOUR: 'it returns false'. Refute it at one input. -/
def fnExactCountWaysWrong : ChangeSpec := { name := "fnExactCountWays", fn := fun _ => fun
  | [d1, d2] => { results := [.lit (.bool false)], args := [d1, d2] }
  | _ => none }
def FnExactCountWaysWrongFalsely : Prop := fnExactCountWaysRow.holds Try.pinned (OpenSpec.ofChange fnExactCountWaysWrong)

/-- 'laws.FnExactAllWays': WHATEVER THE INPUT: true; the input reads as it did. -/
def fnExactAllWaysSpec : ChangeSpec := { name := "fnExactAllWays", fn := fun _ => fun
  | [d1, d2] => { results := [.lit (.bool true)], args := [d1, d2] }
  | _ => none }
def fnExactAllWaysRow : OpenClaim := { program := "ytahnknbggacndaa", sum := "d62ae560cbe0c5682d62c9f73f2149032c806aba63669222ec2fb81c4493e899", func := "loop.example/g01218/laws.FnExactAllWays", spec := "fnExactAllWays", unfollowed := true, recurses := true, apart := false }
def FnExactAllWaysSaid : Prop := fnExactAllWaysRow.holds Try.pinned (OpenSpec.ofChange fnExactAllWaysSpec)

/-- ITS FALSE NEIGHBOUR: 'it returns false'. Refute it at one input. -/
def fnExactAllWaysWrong : ChangeSpec := { name := "fnExactAllWays", fn := fun _ => fun
  | [d1, d2] => { results := [.lit (.bool false)], args := [d1, d2] }
  | _ => none }
def FnExactAllWaysWrongFalsely : Prop := fnExactAllWaysRow.holds Try.pinned (OpenSpec.ofChange fnExactAllWaysWrong)

/-- 'laws.FnExactDoMeet': WHATEVER THE INPUT: true; the input reads as it did. -/
def fnExactDoMeetSpec : ChangeSpec := { name := "fnExactDoMeet", fn := fun _ => fun
  | [d1, d2] => { results := [.lit (.bool true)], args := [d1, d2] }
  | _ => none }
def fnExactDoMeetRow : OpenClaim := { program := "ytahnknbggacndaa", sum := "d62ae560cbe0c5682d62c9f73f2149032c806aba63669222ec2fb81c4493e899", func := "loop.example/g01218/laws.FnExactDoMeet", spec := "fnExactDoMeet", unfollowed := true, recurses := true, apart := false }
def FnExactDoMeetSaid : Prop := fnExactDoMeetRow.holds Try.pinned (OpenSpec.ofChange fnExactDoMeetSpec)

/-- ITS FALSE NEIGHBOUR: 'it returns false'. Refute it at one input. -/
def fnExactDoMeetWrong : ChangeSpec := { name := "fnExactDoMeet", fn := fun _ => fun
  | [d1, d2] => { results := [.lit (.bool false)], args := [d1, d2] }
  | _ => none }
def FnExactDoMeetWrongFalsely : Prop := fnExactDoMeetRow.holds Try.pinned (OpenSpec.ofChange fnExactDoMeetWrong)

/-- 'laws.FnExactFirstMeetingOf': WHATEVER THE INPUT: true; the input reads as it did. -/
def fnExactFirstMeetingOfSpec : ChangeSpec := { name := "fnExactFirstMeetingOf", fn := fun _ => fun
  | [d1, d2] => { results := [.lit (.bool true)], args := [d1, d2] }
  | _ => none }
def fnExactFirstMeetingOfRow : OpenClaim := { program := "ytahnknbggacndaa", sum := "d62ae560cbe0c5682d62c9f73f2149032c806aba63669222ec2fb81c4493e899", func := "loop.example/g01218/laws.FnExactFirstMeetingOf", spec := "fnExactFirstMeetingOf", unfollowed := true, recurses := true, apart := false }
def FnExactFirstMeetingOfSaid : Prop := fnExactFirstMeetingOfRow.holds Try.pinned (OpenSpec.ofChange fnExactFirstMeetingOfSpec)

/-- ITS FALSE NEIGHBOUR: 'it returns false'. Refute it at one input. -/
def fnExactFirstMeetingOfWrong : ChangeSpec := { name := "fnExactFirstMeetingOf", fn := fun _ => fun
  | [d1, d2] => { results := [.lit (.bool false)], args := [d1, d2] }
  | _ => none }
def FnExactFirstMeetingOfWrongFalsely : Prop := fnExactFirstMeetingOfRow.holds Try.pinned (OpenSpec.ofChange fnExactFirstMeetingOfWrong)

/-- 'laws.FnExactSwapTails': WHATEVER THE INPUT: true; the input reads as it did. -/
def fnExactSwapTailsSpec : ChangeSpec := { name := "fnExactSwapTails", fn := fun _ => fun
  | [d1, d2] => { results := [.lit (.bool true)], args := [d1, d2] }
  | _ => none }
def fnExactSwapTailsRow : OpenClaim := { program := "ytahnknbggacndaa", sum := "d62ae560cbe0c5682d62c9f73f2149032c806aba63669222ec2fb81c4493e899", func := "loop.example/g01218/laws.FnExactSwapTails", spec := "fnExactSwapTails", unfollowed := true, recurses := true, apart := false }
def FnExactSwapTailsSaid : Prop := fnExactSwapTailsRow.holds Try.pinned (OpenSpec.ofChange fnExactSwapTailsSpec)

/-- ITS FALSE NEIGHBOUR: 'it returns false'. Refute it at one input. -/
def fnExactSwapTailsWrong : ChangeSpec := { name := "fnExactSwapTails", fn := fun _ => fun
  | [d1, d2] => { results := [.lit (.bool false)], args := [d1, d2] }
  | _ => none }
def FnExactSwapTailsWrongFalsely : Prop := fnExactSwapTailsRow.holds Try.pinned (OpenSpec.ofChange fnExactSwapTailsWrong)

/-- 'laws.FnExactAreApart': WHATEVER THE INPUT: true; the input reads as it did. -/
def fnExactAreApartSpec : ChangeSpec := { name := "fnExactAreApart", fn := fun _ => fun
  | [d] => { results := [.lit (.bool true)], args := [d] }
  | _ => none }
def fnExactAreApartRow : OpenClaim := { program := "ytahnknbggacndaa", sum := "d62ae560cbe0c5682d62c9f73f2149032c806aba63669222ec2fb81c4493e899", func := "loop.example/g01218/laws.FnExactAreApart", spec := "fnExactAreApart", unfollowed := true, recurses := true, apart := false }
def FnExactAreApartSaid : Prop := fnExactAreApartRow.holds Try.pinned (OpenSpec.ofChange fnExactAreApartSpec)

/-- ITS FALSE NEIGHBOUR: 'it returns false'. Refute it at one input. -/
def fnExactAreApartWrong : ChangeSpec := { name := "fnExactAreApart", fn := fun _ => fun
  | [d] => { results := [.lit (.bool false)], args := [d] }
  | _ => none }
def FnExactAreApartWrongFalsely : Prop := fnExactAreApartRow.holds Try.pinned (OpenSpec.ofChange fnExactAreApartWrong)

/-- 'laws.FnExactWaysMatrix': WHATEVER THE INPUT: true; the input reads as it did. -/
def fnExactWaysMatrixSpec : ChangeSpec := { name := "fnExactWaysMatrix", fn := fun _ => fun
  | [d1, d2] => { results := [.lit (.bool true)], args := [d1, d2] }
  | _ => none }
def fnExactWaysMatrixRow : OpenClaim := { program := "ytahnknbggacndaa", sum := "d62ae560cbe0c5682d62c9f73f2149032c806aba63669222ec2fb81c4493e899", func := "loop.example/g01218/laws.FnExactWaysMatrix", spec := "fnExactWaysMatrix", apart := false }
def FnExactWaysMatrixSaid : Prop := fnExactWaysMatrixRow.holds Try.pinned (OpenSpec.ofChange fnExactWaysMatrixSpec)

/-- ITS FALSE NEIGHBOUR: 'it returns false'. Refute it at one input. -/
def fnExactWaysMatrixWrong : ChangeSpec := { name := "fnExactWaysMatrix", fn := fun _ => fun
  | [d1, d2] => { results := [.lit (.bool false)], args := [d1, d2] }
  | _ => none }
def FnExactWaysMatrixWrongFalsely : Prop := fnExactWaysMatrixRow.holds Try.pinned (OpenSpec.ofChange fnExactWaysMatrixWrong)

/-- 'laws.FnExactDeterminantOf': WHATEVER THE INPUT: true; the input reads as it did. -/
def fnExactDeterminantOfSpec : ChangeSpec := { name := "fnExactDeterminantOf", fn := fun _ => fun
  | [d] => { results := [.lit (.bool true)], args := [d] }
  | _ => none }
def fnExactDeterminantOfRow : OpenClaim := { program := "ytahnknbggacndaa", sum := "d62ae560cbe0c5682d62c9f73f2149032c806aba63669222ec2fb81c4493e899", func := "loop.example/g01218/laws.FnExactDeterminantOf", spec := "fnExactDeterminantOf", recurses := true, apart := false }
def FnExactDeterminantOfSaid : Prop := fnExactDeterminantOfRow.holds Try.pinned (OpenSpec.ofChange fnExactDeterminantOfSpec)

/-- ITS FALSE NEIGHBOUR: 'it returns false'. Refute it at one input. -/
def fnExactDeterminantOfWrong : ChangeSpec := { name := "fnExactDeterminantOf", fn := fun _ => fun
  | [d] => { results := [.lit (.bool false)], args := [d] }
  | _ => none }
def FnExactDeterminantOfWrongFalsely : Prop := fnExactDeterminantOfRow.holds Try.pinned (OpenSpec.ofChange fnExactDeterminantOfWrong)

/-- 'laws.FnExactCountApart': WHATEVER THE INPUT: true; the input reads as it did. -/
def fnExactCountApartSpec : ChangeSpec := { name := "fnExactCountApart", fn := fun _ => fun
  | [d1, d2] => { results := [.lit (.bool true)], args := [d1, d2] }
  | _ => none }
def fnExactCountApartRow : OpenClaim := { program := "ytahnknbggacndaa", sum := "d62ae560cbe0c5682d62c9f73f2149032c806aba63669222ec2fb81c4493e899", func := "loop.example/g01218/laws.FnExactCountApart", spec := "fnExactCountApart", recurses := true, apart := false }
def FnExactCountApartSaid : Prop := fnExactCountApartRow.holds Try.pinned (OpenSpec.ofChange fnExactCountApartSpec)

/-- ITS FALSE NEIGHBOUR: 'it returns false'. Refute it at one input. -/
def fnExactCountApartWrong : ChangeSpec := { name := "fnExactCountApart", fn := fun _ => fun
  | [d1, d2] => { results := [.lit (.bool false)], args := [d1, d2] }
  | _ => none }
def FnExactCountApartWrongFalsely : Prop := fnExactCountApartRow.holds Try.pinned (OpenSpec.ofChange fnExactCountApartWrong)

/-- 'laws.FnExactFirstApart': WHATEVER THE INPUT: true; the input reads as it did. -/
def fnExactFirstApartSpec : ChangeSpec := { name := "fnExactFirstApart", fn := fun _ => fun
  | [d1, d2] => { results := [.lit (.bool true)], args := [d1, d2] }
  | _ => none }
def fnExactFirstApartRow : OpenClaim := { program := "ytahnknbggacndaa", sum := "d62ae560cbe0c5682d62c9f73f2149032c806aba63669222ec2fb81c4493e899", func := "loop.example/g01218/laws.FnExactFirstApart", spec := "fnExactFirstApart", unfollowed := true, recurses := true, apart := false }
def FnExactFirstApartSaid : Prop := fnExactFirstApartRow.holds Try.pinned (OpenSpec.ofChange fnExactFirstApartSpec)

/-- ITS FALSE NEIGHBOUR: 'it returns false'. Refute it at one input. -/
def fnExactFirstApartWrong : ChangeSpec := { name := "fnExactFirstApart", fn := fun _ => fun
  | [d1, d2] => { results := [.lit (.bool false)], args := [d1, d2] }
  | _ => none }
def FnExactFirstApartWrongFalsely : Prop := fnExactFirstApartRow.holds Try.pinned (OpenSpec.ofChange fnExactFirstApartWrong)

/-- 'laws.FnExactAllPairsApart': WHATEVER THE INPUT: true; the input reads as it did. -/
def fnExactAllPairsApartSpec : ChangeSpec := { name := "fnExactAllPairsApart", fn := fun _ => fun
  | [d1, d2, d3, d4] => { results := [.lit (.bool true)], args := [d1, d2, d3, d4] }
  | _ => none }
def fnExactAllPairsApartRow : OpenClaim := { program := "ytahnknbggacndaa", sum := "d62ae560cbe0c5682d62c9f73f2149032c806aba63669222ec2fb81c4493e899", func := "loop.example/g01218/laws.FnExactAllPairsApart", spec := "fnExactAllPairsApart", unfollowed := true, recurses := true, apart := false }
def FnExactAllPairsApartSaid : Prop := fnExactAllPairsApartRow.holds Try.pinned (OpenSpec.ofChange fnExactAllPairsApartSpec)

/-- ITS FALSE NEIGHBOUR: 'it returns false'. Refute it at one input. -/
def fnExactAllPairsApartWrong : ChangeSpec := { name := "fnExactAllPairsApart", fn := fun _ => fun
  | [d1, d2, d3, d4] => { results := [.lit (.bool false)], args := [d1, d2, d3, d4] }
  | _ => none }
def FnExactAllPairsApartWrongFalsely : Prop := fnExactAllPairsApartRow.holds Try.pinned (OpenSpec.ofChange fnExactAllPairsApartWrong)

/-- 'laws.FnExactCountFans': WHATEVER THE INPUT: true; the input reads as it did. -/
def fnExactCountFansSpec : ChangeSpec := { name := "fnExactCountFans", fn := fun _ => fun
  | [d1, d2] => { results := [.lit (.bool true)], args := [d1, d2] }
  | _ => none }
def fnExactCountFansRow : OpenClaim := { program := "ytahnknbggacndaa", sum := "d62ae560cbe0c5682d62c9f73f2149032c806aba63669222ec2fb81c4493e899", func := "loop.example/g01218/laws.FnExactCountFans", spec := "fnExactCountFans", apart := false }
def FnExactCountFansSaid : Prop := fnExactCountFansRow.holds Try.pinned (OpenSpec.ofChange fnExactCountFansSpec)

/-- ITS FALSE NEIGHBOUR: 'it returns false'. Refute it at one input. -/
def fnExactCountFansWrong : ChangeSpec := { name := "fnExactCountFans", fn := fun _ => fun
  | [d1, d2] => { results := [.lit (.bool false)], args := [d1, d2] }
  | _ => none }
def FnExactCountFansWrongFalsely : Prop := fnExactCountFansRow.holds Try.pinned (OpenSpec.ofChange fnExactCountFansWrong)

/-- 'laws.FnExactCountCubes': WHATEVER THE INPUT: true; the input reads as it did. -/
def fnExactCountCubesSpec : ChangeSpec := { name := "fnExactCountCubes", fn := fun _ => fun
  | [d1, d2, d3] => { results := [.lit (.bool true)], args := [d1, d2, d3] }
  | _ => none }
def fnExactCountCubesRow : OpenClaim := { program := "ytahnknbggacndaa", sum := "d62ae560cbe0c5682d62c9f73f2149032c806aba63669222ec2fb81c4493e899", func := "loop.example/g01218/laws.FnExactCountCubes", spec := "fnExactCountCubes", apart := false }
def FnExactCountCubesSaid : Prop := fnExactCountCubesRow.holds Try.pinned (OpenSpec.ofChange fnExactCountCubesSpec)

/-- ITS FALSE NEIGHBOUR: 'it returns false'. Refute it at one input. -/
def fnExactCountCubesWrong : ChangeSpec := { name := "fnExactCountCubes", fn := fun _ => fun
  | [d1, d2, d3] => { results := [.lit (.bool false)], args := [d1, d2, d3] }
  | _ => none }
def FnExactCountCubesWrongFalsely : Prop := fnExactCountCubesRow.holds Try.pinned (OpenSpec.ofChange fnExactCountCubesWrong)

/- THE SECOND FORM. 'bulk': how many values and letters a reading holds, each counted each time it is reached (what is shared counts as often as it is met; a slice's spare places count too). A statement '..UptoSaid' is the law's where the arguments, and the package variables that the reading takes, are together of bulk at most 1048576: NARROWER than '..Said'. Prove '..Said' where nothing that the law and all that it calls make is longer than what came in: it says more and counts as full. Else prove '..UptoSaid'. A law counts once. -/
mutual
def uptoBulk {H : Type} : DataW H → Nat
  | .lit (.string bytes) => bytes.length + 1
  | .lit _ => 1
  | .nil => 1
  | .ptr d => uptoBulk d + 1
  | .slice elems spare => uptoBulkAll elems + uptoBulkAll spare + 1
  | .agg parts => uptoBulkAll parts + 1
  | .iface _ d => uptoBulk d + 1
  | .map entries => uptoBulkEntries entries + 1
  | .held _ => 1
def uptoBulkAll {H : Type} : List (DataW H) → Nat
  | [] => 0
  | d :: r => uptoBulk d + uptoBulkAll r
def uptoBulkEntries {H : Type} : List (Lit × DataW H) → Nat
  | [] => 0
  | x :: r => uptoBulkEntry x + uptoBulkEntries r
def uptoBulkEntry {H : Type} : Lit × DataW H → Nat
  | (.string bytes, d) => bytes.length + uptoBulk d + 1
  | (_, d) => uptoBulk d + 1
 end
def uptoSmall : (H : Type) → List (DataW H) → Bool := fun _ ds => decide (uptoBulkAll ds ≤ 1048576)
def OpenSpec.upto (s : _root_.Go.ChangeSpec) : _root_.Go.OpenSpec := { _root_.Go.OpenSpec.ofChange s with cond := some uptoSmall }

/-- 'laws.FnExactIsCell', WHERE WHAT IT READS IS OF BULK AT MOST 1048576: true; the input reads as it did. -/
def fnExactIsCellUptoRow : OpenClaim := { program := "ytahnknbggacndaa", sum := "d62ae560cbe0c5682d62c9f73f2149032c806aba63669222ec2fb81c4493e899", func := "loop.example/g01218/laws.FnExactIsCell", spec := "fnExactIsCell", apart := false, narrowed := true }
def FnExactIsCellUptoSaid : Prop := fnExactIsCellUptoRow.holds Try.pinned (OpenSpec.upto fnExactIsCellSpec)

/-- 'laws.FnExactIsWay', WHERE WHAT IT READS IS OF BULK AT MOST 1048576: true; the input reads as it did. -/
def fnExactIsWayUptoRow : OpenClaim := { program := "ytahnknbggacndaa", sum := "d62ae560cbe0c5682d62c9f73f2149032c806aba63669222ec2fb81c4493e899", func := "loop.example/g01218/laws.FnExactIsWay", spec := "fnExactIsWay", unfollowed := true, recurses := true, apart := false, narrowed := true }
def FnExactIsWayUptoSaid : Prop := fnExactIsWayUptoRow.holds Try.pinned (OpenSpec.upto fnExactIsWaySpec)

/-- 'laws.FnExactCellsOfWay', WHERE WHAT IT READS IS OF BULK AT MOST 1048576: true; the input reads as it did. -/
def fnExactCellsOfWayUptoRow : OpenClaim := { program := "ytahnknbggacndaa", sum := "d62ae560cbe0c5682d62c9f73f2149032c806aba63669222ec2fb81c4493e899", func := "loop.example/g01218/laws.FnExactCellsOfWay", spec := "fnExactCellsOfWay", unfollowed := true, recurses := true, apart := false, narrowed := true }
def FnExactCellsOfWayUptoSaid : Prop := fnExactCellsOfWayUptoRow.holds Try.pinned (OpenSpec.upto fnExactCellsOfWaySpec)

/-- 'laws.FnExactEndOfWay', WHERE WHAT IT READS IS OF BULK AT MOST 1048576: true; the input reads as it did. -/
def fnExactEndOfWayUptoRow : OpenClaim := { program := "ytahnknbggacndaa", sum := "d62ae560cbe0c5682d62c9f73f2149032c806aba63669222ec2fb81c4493e899", func := "loop.example/g01218/laws.FnExactEndOfWay", spec := "fnExactEndOfWay", unfollowed := true, recurses := true, apart := false, narrowed := true }
def FnExactEndOfWayUptoSaid : Prop := fnExactEndOfWayUptoRow.holds Try.pinned (OpenSpec.upto fnExactEndOfWaySpec)

/-- 'laws.FnExactCountWays', WHERE WHAT IT READS IS OF BULK AT MOST 1048576: true; the input reads as it did. -/
def fnExactCountWaysUptoRow : OpenClaim := { program := "ytahnknbggacndaa", sum := "d62ae560cbe0c5682d62c9f73f2149032c806aba63669222ec2fb81c4493e899", func := "loop.example/g01218/laws.FnExactCountWays", spec := "fnExactCountWays", apart := false, narrowed := true }
def FnExactCountWaysUptoSaid : Prop := fnExactCountWaysUptoRow.holds Try.pinned (OpenSpec.upto fnExactCountWaysSpec)

/-- 'laws.FnExactAllWays', WHERE WHAT IT READS IS OF BULK AT MOST 1048576: true; the input reads as it did. -/
def fnExactAllWaysUptoRow : OpenClaim := { program := "ytahnknbggacndaa", sum := "d62ae560cbe0c5682d62c9f73f2149032c806aba63669222ec2fb81c4493e899", func := "loop.example/g01218/laws.FnExactAllWays", spec := "fnExactAllWays", unfollowed := true, recurses := true, apart := false, narrowed := true }
def FnExactAllWaysUptoSaid : Prop := fnExactAllWaysUptoRow.holds Try.pinned (OpenSpec.upto fnExactAllWaysSpec)

/-- 'laws.FnExactDoMeet', WHERE WHAT IT READS IS OF BULK AT MOST 1048576: true; the input reads as it did. -/
def fnExactDoMeetUptoRow : OpenClaim := { program := "ytahnknbggacndaa", sum := "d62ae560cbe0c5682d62c9f73f2149032c806aba63669222ec2fb81c4493e899", func := "loop.example/g01218/laws.FnExactDoMeet", spec := "fnExactDoMeet", unfollowed := true, recurses := true, apart := false, narrowed := true }
def FnExactDoMeetUptoSaid : Prop := fnExactDoMeetUptoRow.holds Try.pinned (OpenSpec.upto fnExactDoMeetSpec)

/-- 'laws.FnExactFirstMeetingOf', WHERE WHAT IT READS IS OF BULK AT MOST 1048576: true; the input reads as it did. -/
def fnExactFirstMeetingOfUptoRow : OpenClaim := { program := "ytahnknbggacndaa", sum := "d62ae560cbe0c5682d62c9f73f2149032c806aba63669222ec2fb81c4493e899", func := "loop.example/g01218/laws.FnExactFirstMeetingOf", spec := "fnExactFirstMeetingOf", unfollowed := true, recurses := true, apart := false, narrowed := true }
def FnExactFirstMeetingOfUptoSaid : Prop := fnExactFirstMeetingOfUptoRow.holds Try.pinned (OpenSpec.upto fnExactFirstMeetingOfSpec)

/-- 'laws.FnExactSwapTails', WHERE WHAT IT READS IS OF BULK AT MOST 1048576: true; the input reads as it did. -/
def fnExactSwapTailsUptoRow : OpenClaim := { program := "ytahnknbggacndaa", sum := "d62ae560cbe0c5682d62c9f73f2149032c806aba63669222ec2fb81c4493e899", func := "loop.example/g01218/laws.FnExactSwapTails", spec := "fnExactSwapTails", unfollowed := true, recurses := true, apart := false, narrowed := true }
def FnExactSwapTailsUptoSaid : Prop := fnExactSwapTailsUptoRow.holds Try.pinned (OpenSpec.upto fnExactSwapTailsSpec)

/-- 'laws.FnExactAreApart', WHERE WHAT IT READS IS OF BULK AT MOST 1048576: true; the input reads as it did. -/
def fnExactAreApartUptoRow : OpenClaim := { program := "ytahnknbggacndaa", sum := "d62ae560cbe0c5682d62c9f73f2149032c806aba63669222ec2fb81c4493e899", func := "loop.example/g01218/laws.FnExactAreApart", spec := "fnExactAreApart", unfollowed := true, recurses := true, apart := false, narrowed := true }
def FnExactAreApartUptoSaid : Prop := fnExactAreApartUptoRow.holds Try.pinned (OpenSpec.upto fnExactAreApartSpec)

/-- 'laws.FnExactWaysMatrix', WHERE WHAT IT READS IS OF BULK AT MOST 1048576: true; the input reads as it did. -/
def fnExactWaysMatrixUptoRow : OpenClaim := { program := "ytahnknbggacndaa", sum := "d62ae560cbe0c5682d62c9f73f2149032c806aba63669222ec2fb81c4493e899", func := "loop.example/g01218/laws.FnExactWaysMatrix", spec := "fnExactWaysMatrix", apart := false, narrowed := true }
def FnExactWaysMatrixUptoSaid : Prop := fnExactWaysMatrixUptoRow.holds Try.pinned (OpenSpec.upto fnExactWaysMatrixSpec)

/-- 'laws.FnExactDeterminantOf', WHERE WHAT IT READS IS OF BULK AT MOST 1048576: true; the input reads as it did. -/
def fnExactDeterminantOfUptoRow : OpenClaim := { program := "ytahnknbggacndaa", sum := "d62ae560cbe0c5682d62c9f73f2149032c806aba63669222ec2fb81c4493e899", func := "loop.example/g01218/laws.FnExactDeterminantOf", spec := "fnExactDeterminantOf", recurses := true, apart := false, narrowed := true }
def FnExactDeterminantOfUptoSaid : Prop := fnExactDeterminantOfUptoRow.holds Try.pinned (OpenSpec.upto fnExactDeterminantOfSpec)

/-- 'laws.FnExactCountApart', WHERE WHAT IT READS IS OF BULK AT MOST 1048576: true; the input reads as it did. -/
def fnExactCountApartUptoRow : OpenClaim := { program := "ytahnknbggacndaa", sum := "d62ae560cbe0c5682d62c9f73f2149032c806aba63669222ec2fb81c4493e899", func := "loop.example/g01218/laws.FnExactCountApart", spec := "fnExactCountApart", recurses := true, apart := false, narrowed := true }
def FnExactCountApartUptoSaid : Prop := fnExactCountApartUptoRow.holds Try.pinned (OpenSpec.upto fnExactCountApartSpec)

/-- 'laws.FnExactFirstApart', WHERE WHAT IT READS IS OF BULK AT MOST 1048576: true; the input reads as it did. -/
def fnExactFirstApartUptoRow : OpenClaim := { program := "ytahnknbggacndaa", sum := "d62ae560cbe0c5682d62c9f73f2149032c806aba63669222ec2fb81c4493e899", func := "loop.example/g01218/laws.FnExactFirstApart", spec := "fnExactFirstApart", unfollowed := true, recurses := true, apart := false, narrowed := true }
def FnExactFirstApartUptoSaid : Prop := fnExactFirstApartUptoRow.holds Try.pinned (OpenSpec.upto fnExactFirstApartSpec)

/-- 'laws.FnExactAllPairsApart', WHERE WHAT IT READS IS OF BULK AT MOST 1048576: true; the input reads as it did. -/
def fnExactAllPairsApartUptoRow : OpenClaim := { program := "ytahnknbggacndaa", sum := "d62ae560cbe0c5682d62c9f73f2149032c806aba63669222ec2fb81c4493e899", func := "loop.example/g01218/laws.FnExactAllPairsApart", spec := "fnExactAllPairsApart", unfollowed := true, recurses := true, apart := false, narrowed := true }
def FnExactAllPairsApartUptoSaid : Prop := fnExactAllPairsApartUptoRow.holds Try.pinned (OpenSpec.upto fnExactAllPairsApartSpec)

/-- 'laws.FnExactCountFans', WHERE WHAT IT READS IS OF BULK AT MOST 1048576: true; the input reads as it did. -/
def fnExactCountFansUptoRow : OpenClaim := { program := "ytahnknbggacndaa", sum := "d62ae560cbe0c5682d62c9f73f2149032c806aba63669222ec2fb81c4493e899", func := "loop.example/g01218/laws.FnExactCountFans", spec := "fnExactCountFans", apart := false, narrowed := true }
def FnExactCountFansUptoSaid : Prop := fnExactCountFansUptoRow.holds Try.pinned (OpenSpec.upto fnExactCountFansSpec)

/-- 'laws.FnExactCountCubes', WHERE WHAT IT READS IS OF BULK AT MOST 1048576: true; the input reads as it did. -/
def fnExactCountCubesUptoRow : OpenClaim := { program := "ytahnknbggacndaa", sum := "d62ae560cbe0c5682d62c9f73f2149032c806aba63669222ec2fb81c4493e899", func := "loop.example/g01218/laws.FnExactCountCubes", spec := "fnExactCountCubes", apart := false, narrowed := true }
def FnExactCountCubesUptoSaid : Prop := fnExactCountCubesUptoRow.holds Try.pinned (OpenSpec.upto fnExactCountCubesSpec)

end Rows
end Go.Proofs.Ytahnknbggacndaa
