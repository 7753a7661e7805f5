/-
  No cell of these rows narrows 'for every input' (looked for: loops, veiled, ifaces, maps, wideKeys, modest, calm, conditions, laid).
  DERIVED. THE GIVEN ROWS OF THIS SEAT. 11 by the template 'for every input the law returns true; each argument reads behind the call as it read before'; 0 by the template 'total and deterministic' (their statements: YtdekjmbbogddgabTotals.lean).
  GIVEN WITH THE SEED: the statements are not yours to turn. If you find one false, say at which input.
  Laid BY PROGRAM, IN A SANDBOX (cutbox-rows.mjs): the forced cells as the released guide's own fill.sh prints them over the translation 089ba98abf48be20… (all of the seat's roots in one cut). By AI agents, Wed Nov 11 2026. No macro, syntax, notation, axiom, sorry.
-/
import Derived.Test.YtdekjmbbogddgabChecked
import GoSem.Claim
import GoSem.ClaimJoined
import GoSem.ClaimMapViews
import Derived.JoinedTies
import Derived.KernelRfl
namespace Go.Proofs.Ytdekjmbbogddgab
/- THE CELL 'sum', in the pinned program and in every row, IS THE sha256 OF THE DUMP (.gsa) THAT YtdekjmbbogddgabProg.lean LOADS. Nothing in Lean hashes anything: it is a label: what it is worth is what the hold of that sum in a sandbox is worth. -/
noncomputable def Try.pinned : Pinned := { name := "ytdekjmbbogddgab", sum := "089ba98abf48be20c6a9ef996c02391d675d884e745d518184ac9d31e1ef0f21", checked := Try.checked }
namespace Rows
def none {H : Type} : Left H := { results := [], args := [] }

/-- 'laws.FnExactIsClosedPath': WHATEVER THE INPUT: true; the input reads as it did. -/
def fnExactIsClosedPathSpec : ChangeSpec := { name := "fnExactIsClosedPath", fn := fun _ => fun
  | [d] => { results := [.lit (.bool true)], args := [d] }
  | _ => none }
def fnExactIsClosedPathRow : OpenClaim := { program := "ytdekjmbbogddgab", sum := "089ba98abf48be20c6a9ef996c02391d675d884e745d518184ac9d31e1ef0f21", func := "loop.example/g01218/laws.FnExactIsClosedPath", spec := "fnExactIsClosedPath", apart := false }
def FnExactIsClosedPathSaid : Prop := fnExactIsClosedPathRow.holds Try.pinned (OpenSpec.ofChange fnExactIsClosedPathSpec)

/-- ITS FALSE NEIGHBOUR: 'it returns false'. Refute it at one input. -/
def fnExactIsClosedPathWrong : ChangeSpec := { name := "fnExactIsClosedPath", fn := fun _ => fun
  | [d] => { results := [.lit (.bool false)], args := [d] }
  | _ => none }
def FnExactIsClosedPathWrongFalsely : Prop := fnExactIsClosedPathRow.holds Try.pinned (OpenSpec.ofChange fnExactIsClosedPathWrong)

/-- 'laws.FnExactTurnPath': WHATEVER THE INPUT: true; the input reads as it did. -/
def fnExactTurnPathSpec : ChangeSpec := { name := "fnExactTurnPath", fn := fun _ => fun
  | [d] => { results := [.lit (.bool true)], args := [d] }
  | _ => none }
def fnExactTurnPathRow : OpenClaim := { program := "ytdekjmbbogddgab", sum := "089ba98abf48be20c6a9ef996c02391d675d884e745d518184ac9d31e1ef0f21", func := "loop.example/g01218/laws.FnExactTurnPath", spec := "fnExactTurnPath", apart := false }
def FnExactTurnPathSaid : Prop := fnExactTurnPathRow.holds Try.pinned (OpenSpec.ofChange fnExactTurnPathSpec)

/-- ITS FALSE NEIGHBOUR: 'it returns false'. Refute it at one input. -/
def fnExactTurnPathWrong : ChangeSpec := { name := "fnExactTurnPath", fn := fun _ => fun
  | [d] => { results := [.lit (.bool false)], args := [d] }
  | _ => none }
def FnExactTurnPathWrongFalsely : Prop := fnExactTurnPathRow.holds Try.pinned (OpenSpec.ofChange fnExactTurnPathWrong)

/-- 'laws.FnExactBackPath': WHATEVER THE INPUT: true; the input reads as it did. -/
def fnExactBackPathSpec : ChangeSpec := { name := "fnExactBackPath", fn := fun _ => fun
  | [d] => { results := [.lit (.bool true)], args := [d] }
  | _ => none }
def fnExactBackPathRow : OpenClaim := { program := "ytdekjmbbogddgab", sum := "089ba98abf48be20c6a9ef996c02391d675d884e745d518184ac9d31e1ef0f21", func := "loop.example/g01218/laws.FnExactBackPath", spec := "fnExactBackPath", apart := false }
def FnExactBackPathSaid : Prop := fnExactBackPathRow.holds Try.pinned (OpenSpec.ofChange fnExactBackPathSpec)

/-- ITS FALSE NEIGHBOUR: 'it returns false'. Refute it at one input. -/
def fnExactBackPathWrong : ChangeSpec := { name := "fnExactBackPath", fn := fun _ => fun
  | [d] => { results := [.lit (.bool false)], args := [d] }
  | _ => none }
def FnExactBackPathWrongFalsely : Prop := fnExactBackPathRow.holds Try.pinned (OpenSpec.ofChange fnExactBackPathWrong)

/-- 'laws.FnExactJoinPaths': WHATEVER THE INPUT: true; the input reads as it did. -/
def fnExactJoinPathsSpec : ChangeSpec := { name := "fnExactJoinPaths", fn := fun _ => fun
  | [d1, d2] => { results := [.lit (.bool true)], args := [d1, d2] }
  | _ => none }
def fnExactJoinPathsRow : OpenClaim := { program := "ytdekjmbbogddgab", sum := "089ba98abf48be20c6a9ef996c02391d675d884e745d518184ac9d31e1ef0f21", func := "loop.example/g01218/laws.FnExactJoinPaths", spec := "fnExactJoinPaths", apart := false }
def FnExactJoinPathsSaid : Prop := fnExactJoinPathsRow.holds Try.pinned (OpenSpec.ofChange fnExactJoinPathsSpec)

/-- ITS FALSE NEIGHBOUR: 'it returns false'. Refute it at one input. -/
def fnExactJoinPathsWrong : ChangeSpec := { name := "fnExactJoinPaths", fn := fun _ => fun
  | [d1, d2] => { results := [.lit (.bool false)], args := [d1, d2] }
  | _ => none }
def FnExactJoinPathsWrongFalsely : Prop := fnExactJoinPathsRow.holds Try.pinned (OpenSpec.ofChange fnExactJoinPathsWrong)

/-- 'laws.FnExactCutAtReturns': WHATEVER THE INPUT: true; the input reads as it did. -/
def fnExactCutAtReturnsSpec : ChangeSpec := { name := "fnExactCutAtReturns", fn := fun _ => fun
  | [d] => { results := [.lit (.bool true)], args := [d] }
  | _ => none }
def fnExactCutAtReturnsRow : OpenClaim := { program := "ytdekjmbbogddgab", sum := "089ba98abf48be20c6a9ef996c02391d675d884e745d518184ac9d31e1ef0f21", func := "loop.example/g01218/laws.FnExactCutAtReturns", spec := "fnExactCutAtReturns", unfollowed := true, recurses := true, apart := false }
def FnExactCutAtReturnsSaid : Prop := fnExactCutAtReturnsRow.holds Try.pinned (OpenSpec.ofChange fnExactCutAtReturnsSpec)

/-- ITS FALSE NEIGHBOUR: 'it returns false'. Refute it at one input. -/
def fnExactCutAtReturnsWrong : ChangeSpec := { name := "fnExactCutAtReturns", fn := fun _ => fun
  | [d] => { results := [.lit (.bool false)], args := [d] }
  | _ => none }
def FnExactCutAtReturnsWrongFalsely : Prop := fnExactCutAtReturnsRow.holds Try.pinned (OpenSpec.ofChange fnExactCutAtReturnsWrong)

/-- 'laws.FnExactLiftPath': WHATEVER THE INPUT: true; the input reads as it did. -/
def fnExactLiftPathSpec : ChangeSpec := { name := "fnExactLiftPath", fn := fun _ => fun
  | [d] => { results := [.lit (.bool true)], args := [d] }
  | _ => none }
def fnExactLiftPathRow : OpenClaim := { program := "ytdekjmbbogddgab", sum := "089ba98abf48be20c6a9ef996c02391d675d884e745d518184ac9d31e1ef0f21", func := "loop.example/g01218/laws.FnExactLiftPath", spec := "fnExactLiftPath", apart := false }
def FnExactLiftPathSaid : Prop := fnExactLiftPathRow.holds Try.pinned (OpenSpec.ofChange fnExactLiftPathSpec)

/-- ITS FALSE NEIGHBOUR: 'it returns false'. Refute it at one input. -/
def fnExactLiftPathWrong : ChangeSpec := { name := "fnExactLiftPath", fn := fun _ => fun
  | [d] => { results := [.lit (.bool false)], args := [d] }
  | _ => none }
def FnExactLiftPathWrongFalsely : Prop := fnExactLiftPathRow.holds Try.pinned (OpenSpec.ofChange fnExactLiftPathWrong)

/-- 'laws.FnExactRankOfPath': WHATEVER THE INPUT: true; the input reads as it did. -/
def fnExactRankOfPathSpec : ChangeSpec := { name := "fnExactRankOfPath", fn := fun _ => fun
  | [d] => { results := [.lit (.bool true)], args := [d] }
  | _ => none }
def fnExactRankOfPathRow : OpenClaim := { program := "ytdekjmbbogddgab", sum := "089ba98abf48be20c6a9ef996c02391d675d884e745d518184ac9d31e1ef0f21", func := "loop.example/g01218/laws.FnExactRankOfPath", spec := "fnExactRankOfPath", inPlace := ["internal/bytealg.CountString", "internal/bytealg.IndexByteString", "internal/bytealg.IndexString"], named := ["internal/bytealg.MaxLen"], apart := false }
def FnExactRankOfPathSaid : Prop := fnExactRankOfPathRow.holds Try.pinned (OpenSpec.ofChange fnExactRankOfPathSpec)

/-- ITS FALSE NEIGHBOUR: 'it returns false'. Refute it at one input. -/
def fnExactRankOfPathWrong : ChangeSpec := { name := "fnExactRankOfPath", fn := fun _ => fun
  | [d] => { results := [.lit (.bool false)], args := [d] }
  | _ => none }
def FnExactRankOfPathWrongFalsely : Prop := fnExactRankOfPathRow.holds Try.pinned (OpenSpec.ofChange fnExactRankOfPathWrong)

/-- 'laws.FnExactPathOfRank': WHATEVER THE INPUT: true; the input reads as it did. -/
def fnExactPathOfRankSpec : ChangeSpec := { name := "fnExactPathOfRank", fn := fun _ => fun
  | [d1, d2, d3] => { results := [.lit (.bool true)], args := [d1, d2, d3] }
  | _ => none }
def fnExactPathOfRankRow : OpenClaim := { program := "ytdekjmbbogddgab", sum := "089ba98abf48be20c6a9ef996c02391d675d884e745d518184ac9d31e1ef0f21", func := "loop.example/g01218/laws.FnExactPathOfRank", spec := "fnExactPathOfRank", apart := false }
def FnExactPathOfRankSaid : Prop := fnExactPathOfRankRow.holds Try.pinned (OpenSpec.ofChange fnExactPathOfRankSpec)

/-- ITS FALSE NEIGHBOUR: 'it returns false'. Refute it at one input. -/
def fnExactPathOfRankWrong : ChangeSpec := { name := "fnExactPathOfRank", fn := fun _ => fun
  | [d1, d2, d3] => { results := [.lit (.bool false)], args := [d1, d2, d3] }
  | _ => none }
def FnExactPathOfRankWrongFalsely : Prop := fnExactPathOfRankRow.holds Try.pinned (OpenSpec.ofChange fnExactPathOfRankWrong)

/-- 'laws.FnExactCountPaths': WHATEVER THE INPUT: true; the input reads as it did. -/
def fnExactCountPathsSpec : ChangeSpec := { name := "fnExactCountPaths", fn := fun _ => fun
  | [d1, d2] => { results := [.lit (.bool true)], args := [d1, d2] }
  | _ => none }
def fnExactCountPathsRow : OpenClaim := { program := "ytdekjmbbogddgab", sum := "089ba98abf48be20c6a9ef996c02391d675d884e745d518184ac9d31e1ef0f21", func := "loop.example/g01218/laws.FnExactCountPaths", spec := "fnExactCountPaths", apart := false }
def FnExactCountPathsSaid : Prop := fnExactCountPathsRow.holds Try.pinned (OpenSpec.ofChange fnExactCountPathsSpec)

/-- ITS FALSE NEIGHBOUR: 'it returns false'. Refute it at one input. -/
def fnExactCountPathsWrong : ChangeSpec := { name := "fnExactCountPaths", fn := fun _ => fun
  | [d1, d2] => { results := [.lit (.bool false)], args := [d1, d2] }
  | _ => none }
def FnExactCountPathsWrongFalsely : Prop := fnExactCountPathsRow.holds Try.pinned (OpenSpec.ofChange fnExactCountPathsWrong)

/-- 'laws.FnExactRunsOfPath': WHATEVER THE INPUT: true; the input reads as it did. -/
def fnExactRunsOfPathSpec : ChangeSpec := { name := "fnExactRunsOfPath", fn := fun _ => fun
  | [d] => { results := [.lit (.bool true)], args := [d] }
  | _ => none }
def fnExactRunsOfPathRow : OpenClaim := { program := "ytdekjmbbogddgab", sum := "089ba98abf48be20c6a9ef996c02391d675d884e745d518184ac9d31e1ef0f21", func := "loop.example/g01218/laws.FnExactRunsOfPath", spec := "fnExactRunsOfPath", unfollowed := true, recurses := true, apart := false }
def FnExactRunsOfPathSaid : Prop := fnExactRunsOfPathRow.holds Try.pinned (OpenSpec.ofChange fnExactRunsOfPathSpec)

/-- ITS FALSE NEIGHBOUR: 'it returns false'. Refute it at one input. -/
def fnExactRunsOfPathWrong : ChangeSpec := { name := "fnExactRunsOfPath", fn := fun _ => fun
  | [d] => { results := [.lit (.bool false)], args := [d] }
  | _ => none }
def FnExactRunsOfPathWrongFalsely : Prop := fnExactRunsOfPathRow.holds Try.pinned (OpenSpec.ofChange fnExactRunsOfPathWrong)

/-- 'laws.FnExactPathOfRuns': WHATEVER THE INPUT: true; the input reads as it did. -/
def fnExactPathOfRunsSpec : ChangeSpec := { name := "fnExactPathOfRuns", fn := fun _ => fun
  | [d] => { results := [.lit (.bool true)], args := [d] }
  | _ => none }
def fnExactPathOfRunsRow : OpenClaim := { program := "ytdekjmbbogddgab", sum := "089ba98abf48be20c6a9ef996c02391d675d884e745d518184ac9d31e1ef0f21", func := "loop.example/g01218/laws.FnExactPathOfRuns", spec := "fnExactPathOfRuns", apart := false }
def FnExactPathOfRunsSaid : Prop := fnExactPathOfRunsRow.holds Try.pinned (OpenSpec.ofChange fnExactPathOfRunsSpec)

/-- ITS FALSE NEIGHBOUR: 'it returns false'. Refute it at one input. -/
def fnExactPathOfRunsWrong : ChangeSpec := { name := "fnExactPathOfRuns", fn := fun _ => fun
  | [d] => { results := [.lit (.bool false)], args := [d] }
  | _ => none }
def FnExactPathOfRunsWrongFalsely : Prop := fnExactPathOfRunsRow.holds Try.pinned (OpenSpec.ofChange fnExactPathOfRunsWrong)

/- THE SECOND FORM. 'bulk': how many values and letters a reading holds, each counted each time it is reached (what is shared counts as often as it is met; a slice's spare places count too). A statement '..UptoSaid' is the law's where the arguments, and the package variables that the reading takes, are together of bulk at most 1048576: NARROWER than '..Said'. Prove '..Said' where nothing that the law and all that it calls make is longer than what came in: it says more and counts as full. Else prove '..UptoSaid'. A law counts once. -/
mutual
def uptoBulk {H : Type} : DataW H → Nat
  | .lit (.string bytes) => bytes.length + 1
  | .lit _ => 1
  | .nil => 1
  | .ptr d => uptoBulk d + 1
  | .slice elems spare => uptoBulkAll elems + uptoBulkAll spare + 1
  | .agg parts => uptoBulkAll parts + 1
  | .iface _ d => uptoBulk d + 1
  | .map entries => uptoBulkEntries entries + 1
  | .held _ => 1
def uptoBulkAll {H : Type} : List (DataW H) → Nat
  | [] => 0
  | d :: r => uptoBulk d + uptoBulkAll r
def uptoBulkEntries {H : Type} : List (Lit × DataW H) → Nat
  | [] => 0
  | x :: r => uptoBulkEntry x + uptoBulkEntries r
def uptoBulkEntry {H : Type} : Lit × DataW H → Nat
  | (.string bytes, d) => bytes.length + uptoBulk d + 1
  | (_, d) => uptoBulk d + 1
 end
def uptoSmall : (H : Type) → List (DataW H) → Bool := fun _ ds => decide (uptoBulkAll ds ≤ 1048576)
def OpenSpec.upto (s : _root_.Go.ChangeSpec) : _root_.Go.OpenSpec := { _root_.Go.OpenSpec.ofChange s with cond := some uptoSmall }

/-- 'laws.FnExactIsClosedPath', WHERE WHAT IT READS IS OF BULK AT MOST 1048576: true; the input reads as it did. -/
def fnExactIsClosedPathUptoRow : OpenClaim := { program := "ytdekjmbbogddgab", sum := "089ba98abf48be20c6a9ef996c02391d675d884e745d518184ac9d31e1ef0f21", func := "loop.example/g01218/laws.FnExactIsClosedPath", spec := "fnExactIsClosedPath", apart := false, narrowed := true }
def FnExactIsClosedPathUptoSaid : Prop := fnExactIsClosedPathUptoRow.holds Try.pinned (OpenSpec.upto fnExactIsClosedPathSpec)

/-- 'laws.FnExactTurnPath', WHERE WHAT IT READS IS OF BULK AT MOST 1048576: true; the input reads as it did. -/
def fnExactTurnPathUptoRow : OpenClaim := { program := "ytdekjmbbogddgab", sum := "089ba98abf48be20c6a9ef996c02391d675d884e745d518184ac9d31e1ef0f21", func := "loop.example/g01218/laws.FnExactTurnPath", spec := "fnExactTurnPath", apart := false, narrowed := true }
def FnExactTurnPathUptoSaid : Prop := fnExactTurnPathUptoRow.holds Try.pinned (OpenSpec.upto fnExactTurnPathSpec)

/-- 'laws.FnExactBackPath', WHERE WHAT IT READS IS OF BULK AT MOST 1048576: true; the input reads as it did. -/
def fnExactBackPathUptoRow : OpenClaim := { program := "ytdekjmbbogddgab", sum := "089ba98abf48be20c6a9ef996c02391d675d884e745d518184ac9d31e1ef0f21", func := "loop.example/g01218/laws.FnExactBackPath", spec := "fnExactBackPath", apart := false, narrowed := true }
def FnExactBackPathUptoSaid : Prop := fnExactBackPathUptoRow.holds Try.pinned (OpenSpec.upto fnExactBackPathSpec)

/-- 'laws.FnExactJoinPaths', WHERE WHAT IT READS IS OF BULK AT MOST 1048576: true; the input reads as it did. -/
def fnExactJoinPathsUptoRow : OpenClaim := { program := "ytdekjmbbogddgab", sum := "089ba98abf48be20c6a9ef996c02391d675d884e745d518184ac9d31e1ef0f21", func := "loop.example/g01218/laws.FnExactJoinPaths", spec := "fnExactJoinPaths", apart := false, narrowed := true }
def FnExactJoinPathsUptoSaid : Prop := fnExactJoinPathsUptoRow.holds Try.pinned (OpenSpec.upto fnExactJoinPathsSpec)

/-- 'laws.FnExactCutAtReturns', WHERE WHAT IT READS IS OF BULK AT MOST 1048576: true; the input reads as it did. -/
def fnExactCutAtReturnsUptoRow : OpenClaim := { program := "ytdekjmbbogddgab", sum := "089ba98abf48be20c6a9ef996c02391d675d884e745d518184ac9d31e1ef0f21", func := "loop.example/g01218/laws.FnExactCutAtReturns", spec := "fnExactCutAtReturns", unfollowed := true, recurses := true, apart := false, narrowed := true }
def FnExactCutAtReturnsUptoSaid : Prop := fnExactCutAtReturnsUptoRow.holds Try.pinned (OpenSpec.upto fnExactCutAtReturnsSpec)

/-- 'laws.FnExactLiftPath', WHERE WHAT IT READS IS OF BULK AT MOST 1048576: true; the input reads as it did. -/
def fnExactLiftPathUptoRow : OpenClaim := { program := "ytdekjmbbogddgab", sum := "089ba98abf48be20c6a9ef996c02391d675d884e745d518184ac9d31e1ef0f21", func := "loop.example/g01218/laws.FnExactLiftPath", spec := "fnExactLiftPath", apart := false, narrowed := true }
def FnExactLiftPathUptoSaid : Prop := fnExactLiftPathUptoRow.holds Try.pinned (OpenSpec.upto fnExactLiftPathSpec)

/-- 'laws.FnExactRankOfPath', WHERE WHAT IT READS IS OF BULK AT MOST 1048576: true; the input reads as it did. -/
def fnExactRankOfPathUptoRow : OpenClaim := { program := "ytdekjmbbogddgab", sum := "089ba98abf48be20c6a9ef996c02391d675d884e745d518184ac9d31e1ef0f21", func := "loop.example/g01218/laws.FnExactRankOfPath", spec := "fnExactRankOfPath", inPlace := ["internal/bytealg.CountString", "internal/bytealg.IndexByteString", "internal/bytealg.IndexString"], named := ["internal/bytealg.MaxLen"], apart := false, narrowed := true }
def FnExactRankOfPathUptoSaid : Prop := fnExactRankOfPathUptoRow.holds Try.pinned (OpenSpec.upto fnExactRankOfPathSpec)

/-- 'laws.FnExactPathOfRank', WHERE WHAT IT READS IS OF BULK AT MOST 1048576: true; the input reads as it did. -/
def fnExactPathOfRankUptoRow : OpenClaim := { program := "ytdekjmbbogddgab", sum := "089ba98abf48be20c6a9ef996c02391d675d884e745d518184ac9d31e1ef0f21", func := "loop.example/g01218/laws.FnExactPathOfRank", spec := "fnExactPathOfRank", apart := false, narrowed := true }
def FnExactPathOfRankUptoSaid : Prop := fnExactPathOfRankUptoRow.holds Try.pinned (OpenSpec.upto fnExactPathOfRankSpec)

/-- 'laws.FnExactCountPaths', WHERE WHAT IT READS IS OF BULK AT MOST 1048576: true; the input reads as it did. -/
def fnExactCountPathsUptoRow : OpenClaim := { program := "ytdekjmbbogddgab", sum := "089ba98abf48be20c6a9ef996c02391d675d884e745d518184ac9d31e1ef0f21", func := "loop.example/g01218/laws.FnExactCountPaths", spec := "fnExactCountPaths", apart := false, narrowed := true }
def FnExactCountPathsUptoSaid : Prop := fnExactCountPathsUptoRow.holds Try.pinned (OpenSpec.upto fnExactCountPathsSpec)

/-- 'laws.FnExactRunsOfPath', WHERE WHAT IT READS IS OF BULK AT MOST 1048576: true; the input reads as it did. -/
def fnExactRunsOfPathUptoRow : OpenClaim := { program := "ytdekjmbbogddgab", sum := "089ba98abf48be20c6a9ef996c02391d675d884e745d518184ac9d31e1ef0f21", func := "loop.example/g01218/laws.FnExactRunsOfPath", spec := "fnExactRunsOfPath", unfollowed := true, recurses := true, apart := false, narrowed := true }
def FnExactRunsOfPathUptoSaid : Prop := fnExactRunsOfPathUptoRow.holds Try.pinned (OpenSpec.upto fnExactRunsOfPathSpec)

/-- 'laws.FnExactPathOfRuns', WHERE WHAT IT READS IS OF BULK AT MOST 1048576: true; the input reads as it did. -/
def fnExactPathOfRunsUptoRow : OpenClaim := { program := "ytdekjmbbogddgab", sum := "089ba98abf48be20c6a9ef996c02391d675d884e745d518184ac9d31e1ef0f21", func := "loop.example/g01218/laws.FnExactPathOfRuns", spec := "fnExactPathOfRuns", apart := false, narrowed := true }
def FnExactPathOfRunsUptoSaid : Prop := fnExactPathOfRunsUptoRow.holds Try.pinned (OpenSpec.upto fnExactPathOfRunsSpec)

end Rows
end Go.Proofs.Ytdekjmbbogddgab
