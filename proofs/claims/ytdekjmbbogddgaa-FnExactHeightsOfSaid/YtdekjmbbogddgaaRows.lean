/-
  No cell of these rows narrows 'for every input' (looked for: loops, veiled, ifaces, maps, wideKeys, modest, calm, conditions, laid).
  DERIVED. THE GIVEN ROWS OF THIS SEAT. 12 by the template 'for every input the law returns true; each argument reads behind the call as it read before'; 0 by the template 'total and deterministic' (their statements: YtdekjmbbogddgaaTotals.lean).
  GIVEN WITH THE SEED: the statements are not yours to turn. If you find one false, say at which input.
  Laid BY PROGRAM, IN A SANDBOX (cutbox-rows.mjs): the forced cells as the released guide's own fill.sh prints them over the translation a3b3f15296e27edf… (all of the seat's roots in one cut). By AI agents, Wed Nov 11 2026. No macro, syntax, notation, axiom, sorry.
-/
import Derived.Test.YtdekjmbbogddgaaChecked
import GoSem.Claim
import GoSem.ClaimJoined
import GoSem.ClaimMapViews
import Derived.JoinedTies
import Derived.KernelRfl
namespace Go.Proofs.Ytdekjmbbogddgaa
/- THE CELL 'sum', in the pinned program and in every row, IS THE sha256 OF THE DUMP (.gsa) THAT YtdekjmbbogddgaaProg.lean LOADS. Nothing in Lean hashes anything: it is a label: what it is worth is what the hold of that sum in a sandbox is worth. -/
noncomputable def Try.pinned : Pinned := { name := "ytdekjmbbogddgaa", sum := "a3b3f15296e27edf7144098e06f8caf8007fabee1946adacfa2d555681ba62a2", checked := Try.checked }
namespace Rows
def none {H : Type} : Left H := { results := [], args := [] }

/-- 'laws.FnPathsClimb': WHATEVER THE INPUT: true; the input reads as it did. -/
def fnPathsClimbSpec : ChangeSpec := { name := "fnPathsClimb", fn := fun _ => fun
  | [d1, d2] => { results := [.lit (.bool true)], args := [d1, d2] }
  | _ => none }
def fnPathsClimbRow : OpenClaim := { program := "ytdekjmbbogddgaa", sum := "a3b3f15296e27edf7144098e06f8caf8007fabee1946adacfa2d555681ba62a2", func := "loop.example/g01218/laws.FnPathsClimb", spec := "fnPathsClimb", unfollowed := true, recurses := true, apart := false }
def FnPathsClimbSaid : Prop := fnPathsClimbRow.holds Try.pinned (OpenSpec.ofChange fnPathsClimbSpec)

/-- ITS FALSE NEIGHBOUR: 'it returns false'. Refute it at one input. -/
def fnPathsClimbWrong : ChangeSpec := { name := "fnPathsClimb", fn := fun _ => fun
  | [d1, d2] => { results := [.lit (.bool false)], args := [d1, d2] }
  | _ => none }
def FnPathsClimbWrongFalsely : Prop := fnPathsClimbRow.holds Try.pinned (OpenSpec.ofChange fnPathsClimbWrong)

/-- 'laws.FnPathsRanked': WHATEVER THE INPUT: true; the input reads as it did. -/
def fnPathsRankedSpec : ChangeSpec := { name := "fnPathsRanked", fn := fun _ => fun
  | [d1, d2] => { results := [.lit (.bool true)], args := [d1, d2] }
  | _ => none }
def fnPathsRankedRow : OpenClaim := { program := "ytdekjmbbogddgaa", sum := "a3b3f15296e27edf7144098e06f8caf8007fabee1946adacfa2d555681ba62a2", func := "loop.example/g01218/laws.FnPathsRanked", spec := "fnPathsRanked", inPlace := ["internal/bytealg.CountString", "internal/bytealg.IndexByteString", "internal/bytealg.IndexString"], unfollowed := true, recurses := true, named := ["internal/bytealg.MaxLen"], apart := false }
def FnPathsRankedSaid : Prop := fnPathsRankedRow.holds Try.pinned (OpenSpec.ofChange fnPathsRankedSpec)

/-- ITS FALSE NEIGHBOUR: 'it returns false'. Refute it at one input. -/
def fnPathsRankedWrong : ChangeSpec := { name := "fnPathsRanked", fn := fun _ => fun
  | [d1, d2] => { results := [.lit (.bool false)], args := [d1, d2] }
  | _ => none }
def FnPathsRankedWrongFalsely : Prop := fnPathsRankedRow.holds Try.pinned (OpenSpec.ofChange fnPathsRankedWrong)

/-- 'laws.FnExactIsPath': WHATEVER THE INPUT: true; the input reads as it did. -/
def fnExactIsPathSpec : ChangeSpec := { name := "fnExactIsPath", fn := fun _ => fun
  | [d] => { results := [.lit (.bool true)], args := [d] }
  | _ => none }
def fnExactIsPathRow : OpenClaim := { program := "ytdekjmbbogddgaa", sum := "a3b3f15296e27edf7144098e06f8caf8007fabee1946adacfa2d555681ba62a2", func := "loop.example/g01218/laws.FnExactIsPath", spec := "fnExactIsPath", apart := false }
def FnExactIsPathSaid : Prop := fnExactIsPathRow.holds Try.pinned (OpenSpec.ofChange fnExactIsPathSpec)

/-- ITS FALSE NEIGHBOUR: 'it returns false'. Refute it at one input. -/
def fnExactIsPathWrong : ChangeSpec := { name := "fnExactIsPath", fn := fun _ => fun
  | [d] => { results := [.lit (.bool false)], args := [d] }
  | _ => none }
def FnExactIsPathWrongFalsely : Prop := fnExactIsPathRow.holds Try.pinned (OpenSpec.ofChange fnExactIsPathWrong)

/-- 'laws.FnExactHeightsOf': WHATEVER THE INPUT: true; the input reads as it did. -/
def fnExactHeightsOfSpec : ChangeSpec := { name := "fnExactHeightsOf", fn := fun _ => fun
  | [d] => { results := [.lit (.bool true)], args := [d] }
  | _ => none }
def fnExactHeightsOfRow : OpenClaim := { program := "ytdekjmbbogddgaa", sum := "a3b3f15296e27edf7144098e06f8caf8007fabee1946adacfa2d555681ba62a2", func := "loop.example/g01218/laws.FnExactHeightsOf", spec := "fnExactHeightsOf", apart := false }
def FnExactHeightsOfSaid : Prop := fnExactHeightsOfRow.holds Try.pinned (OpenSpec.ofChange fnExactHeightsOfSpec)

/-- ITS FALSE NEIGHBOUR: 'it returns false'. Refute it at one input. -/
def fnExactHeightsOfWrong : ChangeSpec := { name := "fnExactHeightsOf", fn := fun _ => fun
  | [d] => { results := [.lit (.bool false)], args := [d] }
  | _ => none }
def FnExactHeightsOfWrongFalsely : Prop := fnExactHeightsOfRow.holds Try.pinned (OpenSpec.ofChange fnExactHeightsOfWrong)

/-- 'laws.FnExactEndHeight': WHATEVER THE INPUT: true; the input reads as it did. -/
def fnExactEndHeightSpec : ChangeSpec := { name := "fnExactEndHeight", fn := fun _ => fun
  | [d] => { results := [.lit (.bool true)], args := [d] }
  | _ => none }
def fnExactEndHeightRow : OpenClaim := { program := "ytdekjmbbogddgaa", sum := "a3b3f15296e27edf7144098e06f8caf8007fabee1946adacfa2d555681ba62a2", func := "loop.example/g01218/laws.FnExactEndHeight", spec := "fnExactEndHeight", apart := false }
def FnExactEndHeightSaid : Prop := fnExactEndHeightRow.holds Try.pinned (OpenSpec.ofChange fnExactEndHeightSpec)

/-- ITS FALSE NEIGHBOUR: 'it returns false'. Refute it at one input. -/
def fnExactEndHeightWrong : ChangeSpec := { name := "fnExactEndHeight", fn := fun _ => fun
  | [d] => { results := [.lit (.bool false)], args := [d] }
  | _ => none }
def FnExactEndHeightWrongFalsely : Prop := fnExactEndHeightRow.holds Try.pinned (OpenSpec.ofChange fnExactEndHeightWrong)

/-- 'laws.FnExactLowestOf': WHATEVER THE INPUT: true; the input reads as it did. -/
def fnExactLowestOfSpec : ChangeSpec := { name := "fnExactLowestOf", fn := fun _ => fun
  | [d] => { results := [.lit (.bool true)], args := [d] }
  | _ => none }
def fnExactLowestOfRow : OpenClaim := { program := "ytdekjmbbogddgaa", sum := "a3b3f15296e27edf7144098e06f8caf8007fabee1946adacfa2d555681ba62a2", func := "loop.example/g01218/laws.FnExactLowestOf", spec := "fnExactLowestOf", apart := false }
def FnExactLowestOfSaid : Prop := fnExactLowestOfRow.holds Try.pinned (OpenSpec.ofChange fnExactLowestOfSpec)

/-- ITS FALSE NEIGHBOUR: 'it returns false'. Refute it at one input. -/
def fnExactLowestOfWrong : ChangeSpec := { name := "fnExactLowestOf", fn := fun _ => fun
  | [d] => { results := [.lit (.bool false)], args := [d] }
  | _ => none }
def FnExactLowestOfWrongFalsely : Prop := fnExactLowestOfRow.holds Try.pinned (OpenSpec.ofChange fnExactLowestOfWrong)

/-- 'laws.FnExactHighestOf': WHATEVER THE INPUT: true; the input reads as it did. -/
def fnExactHighestOfSpec : ChangeSpec := { name := "fnExactHighestOf", fn := fun _ => fun
  | [d] => { results := [.lit (.bool true)], args := [d] }
  | _ => none }
def fnExactHighestOfRow : OpenClaim := { program := "ytdekjmbbogddgaa", sum := "a3b3f15296e27edf7144098e06f8caf8007fabee1946adacfa2d555681ba62a2", func := "loop.example/g01218/laws.FnExactHighestOf", spec := "fnExactHighestOf", apart := false }
def FnExactHighestOfSaid : Prop := fnExactHighestOfRow.holds Try.pinned (OpenSpec.ofChange fnExactHighestOfSpec)

/-- ITS FALSE NEIGHBOUR: 'it returns false'. Refute it at one input. -/
def fnExactHighestOfWrong : ChangeSpec := { name := "fnExactHighestOf", fn := fun _ => fun
  | [d] => { results := [.lit (.bool false)], args := [d] }
  | _ => none }
def FnExactHighestOfWrongFalsely : Prop := fnExactHighestOfRow.holds Try.pinned (OpenSpec.ofChange fnExactHighestOfWrong)

/-- 'laws.FnExactTimesAtHeight': WHATEVER THE INPUT: true; the input reads as it did. -/
def fnExactTimesAtHeightSpec : ChangeSpec := { name := "fnExactTimesAtHeight", fn := fun _ => fun
  | [d1, d2] => { results := [.lit (.bool true)], args := [d1, d2] }
  | _ => none }
def fnExactTimesAtHeightRow : OpenClaim := { program := "ytdekjmbbogddgaa", sum := "a3b3f15296e27edf7144098e06f8caf8007fabee1946adacfa2d555681ba62a2", func := "loop.example/g01218/laws.FnExactTimesAtHeight", spec := "fnExactTimesAtHeight", apart := false }
def FnExactTimesAtHeightSaid : Prop := fnExactTimesAtHeightRow.holds Try.pinned (OpenSpec.ofChange fnExactTimesAtHeightSpec)

/-- ITS FALSE NEIGHBOUR: 'it returns false'. Refute it at one input. -/
def fnExactTimesAtHeightWrong : ChangeSpec := { name := "fnExactTimesAtHeight", fn := fun _ => fun
  | [d1, d2] => { results := [.lit (.bool false)], args := [d1, d2] }
  | _ => none }
def FnExactTimesAtHeightWrongFalsely : Prop := fnExactTimesAtHeightRow.holds Try.pinned (OpenSpec.ofChange fnExactTimesAtHeightWrong)

/-- 'laws.FnExactPeaksOf': WHATEVER THE INPUT: true; the input reads as it did. -/
def fnExactPeaksOfSpec : ChangeSpec := { name := "fnExactPeaksOf", fn := fun _ => fun
  | [d] => { results := [.lit (.bool true)], args := [d] }
  | _ => none }
def fnExactPeaksOfRow : OpenClaim := { program := "ytdekjmbbogddgaa", sum := "a3b3f15296e27edf7144098e06f8caf8007fabee1946adacfa2d555681ba62a2", func := "loop.example/g01218/laws.FnExactPeaksOf", spec := "fnExactPeaksOf", apart := false }
def FnExactPeaksOfSaid : Prop := fnExactPeaksOfRow.holds Try.pinned (OpenSpec.ofChange fnExactPeaksOfSpec)

/-- ITS FALSE NEIGHBOUR: 'it returns false'. Refute it at one input. -/
def fnExactPeaksOfWrong : ChangeSpec := { name := "fnExactPeaksOf", fn := fun _ => fun
  | [d] => { results := [.lit (.bool false)], args := [d] }
  | _ => none }
def FnExactPeaksOfWrongFalsely : Prop := fnExactPeaksOfRow.holds Try.pinned (OpenSpec.ofChange fnExactPeaksOfWrong)

/-- 'laws.FnExactReturnsOf': WHATEVER THE INPUT: true; the input reads as it did. -/
def fnExactReturnsOfSpec : ChangeSpec := { name := "fnExactReturnsOf", fn := fun _ => fun
  | [d] => { results := [.lit (.bool true)], args := [d] }
  | _ => none }
def fnExactReturnsOfRow : OpenClaim := { program := "ytdekjmbbogddgaa", sum := "a3b3f15296e27edf7144098e06f8caf8007fabee1946adacfa2d555681ba62a2", func := "loop.example/g01218/laws.FnExactReturnsOf", spec := "fnExactReturnsOf", apart := false }
def FnExactReturnsOfSaid : Prop := fnExactReturnsOfRow.holds Try.pinned (OpenSpec.ofChange fnExactReturnsOfSpec)

/-- ITS FALSE NEIGHBOUR: 'it returns false'. Refute it at one input. -/
def fnExactReturnsOfWrong : ChangeSpec := { name := "fnExactReturnsOf", fn := fun _ => fun
  | [d] => { results := [.lit (.bool false)], args := [d] }
  | _ => none }
def FnExactReturnsOfWrongFalsely : Prop := fnExactReturnsOfRow.holds Try.pinned (OpenSpec.ofChange fnExactReturnsOfWrong)

/-- 'laws.FnExactAreaOfPath': WHATEVER THE INPUT: true; the input reads as it did. -/
def fnExactAreaOfPathSpec : ChangeSpec := { name := "fnExactAreaOfPath", fn := fun _ => fun
  | [d] => { results := [.lit (.bool true)], args := [d] }
  | _ => none }
def fnExactAreaOfPathRow : OpenClaim := { program := "ytdekjmbbogddgaa", sum := "a3b3f15296e27edf7144098e06f8caf8007fabee1946adacfa2d555681ba62a2", func := "loop.example/g01218/laws.FnExactAreaOfPath", spec := "fnExactAreaOfPath", apart := false }
def FnExactAreaOfPathSaid : Prop := fnExactAreaOfPathRow.holds Try.pinned (OpenSpec.ofChange fnExactAreaOfPathSpec)

/-- ITS FALSE NEIGHBOUR: 'it returns false'. Refute it at one input. -/
def fnExactAreaOfPathWrong : ChangeSpec := { name := "fnExactAreaOfPath", fn := fun _ => fun
  | [d] => { results := [.lit (.bool false)], args := [d] }
  | _ => none }
def FnExactAreaOfPathWrongFalsely : Prop := fnExactAreaOfPathRow.holds Try.pinned (OpenSpec.ofChange fnExactAreaOfPathWrong)

/-- 'laws.FnExactIsGood': WHATEVER THE INPUT: true; the input reads as it did. -/
def fnExactIsGoodSpec : ChangeSpec := { name := "fnExactIsGood", fn := fun _ => fun
  | [d] => { results := [.lit (.bool true)], args := [d] }
  | _ => none }
def fnExactIsGoodRow : OpenClaim := { program := "ytdekjmbbogddgaa", sum := "a3b3f15296e27edf7144098e06f8caf8007fabee1946adacfa2d555681ba62a2", func := "loop.example/g01218/laws.FnExactIsGood", spec := "fnExactIsGood", apart := false }
def FnExactIsGoodSaid : Prop := fnExactIsGoodRow.holds Try.pinned (OpenSpec.ofChange fnExactIsGoodSpec)

/-- ITS FALSE NEIGHBOUR: 'it returns false'. Refute it at one input. -/
def fnExactIsGoodWrong : ChangeSpec := { name := "fnExactIsGood", fn := fun _ => fun
  | [d] => { results := [.lit (.bool false)], args := [d] }
  | _ => none }
def FnExactIsGoodWrongFalsely : Prop := fnExactIsGoodRow.holds Try.pinned (OpenSpec.ofChange fnExactIsGoodWrong)

/- THE SECOND FORM. 'bulk': how many values and letters a reading holds, each counted each time it is reached (what is shared counts as often as it is met; a slice's spare places count too). A statement '..UptoSaid' is the law's where the arguments, and the package variables that the reading takes, are together of bulk at most 1048576: NARROWER than '..Said'. Prove '..Said' where nothing that the law and all that it calls make is longer than what came in: it says more and counts as full. Else prove '..UptoSaid'. A law counts once. -/
mutual
def uptoBulk {H : Type} : DataW H → Nat
  | .lit (.string bytes) => bytes.length + 1
  | .lit _ => 1
  | .nil => 1
  | .ptr d => uptoBulk d + 1
  | .slice elems spare => uptoBulkAll elems + uptoBulkAll spare + 1
  | .agg parts => uptoBulkAll parts + 1
  | .iface _ d => uptoBulk d + 1
  | .map entries => uptoBulkEntries entries + 1
  | .held _ => 1
def uptoBulkAll {H : Type} : List (DataW H) → Nat
  | [] => 0
  | d :: r => uptoBulk d + uptoBulkAll r
def uptoBulkEntries {H : Type} : List (Lit × DataW H) → Nat
  | [] => 0
  | x :: r => uptoBulkEntry x + uptoBulkEntries r
def uptoBulkEntry {H : Type} : Lit × DataW H → Nat
  | (.string bytes, d) => bytes.length + uptoBulk d + 1
  | (_, d) => uptoBulk d + 1
 end
def uptoSmall : (H : Type) → List (DataW H) → Bool := fun _ ds => decide (uptoBulkAll ds ≤ 1048576)
def OpenSpec.upto (s : _root_.Go.ChangeSpec) : _root_.Go.OpenSpec := { _root_.Go.OpenSpec.ofChange s with cond := some uptoSmall }

/-- 'laws.FnPathsClimb', WHERE WHAT IT READS IS OF BULK AT MOST 1048576: true; the input reads as it did. -/
def fnPathsClimbUptoRow : OpenClaim := { program := "ytdekjmbbogddgaa", sum := "a3b3f15296e27edf7144098e06f8caf8007fabee1946adacfa2d555681ba62a2", func := "loop.example/g01218/laws.FnPathsClimb", spec := "fnPathsClimb", unfollowed := true, recurses := true, apart := false, narrowed := true }
def FnPathsClimbUptoSaid : Prop := fnPathsClimbUptoRow.holds Try.pinned (OpenSpec.upto fnPathsClimbSpec)

/-- 'laws.FnPathsRanked', WHERE WHAT IT READS IS OF BULK AT MOST 1048576: true; the input reads as it did. -/
def fnPathsRankedUptoRow : OpenClaim := { program := "ytdekjmbbogddgaa", sum := "a3b3f15296e27edf7144098e06f8caf8007fabee1946adacfa2d555681ba62a2", func := "loop.example/g01218/laws.FnPathsRanked", spec := "fnPathsRanked", inPlace := ["internal/bytealg.CountString", "internal/bytealg.IndexByteString", "internal/bytealg.IndexString"], unfollowed := true, recurses := true, named := ["internal/bytealg.MaxLen"], apart := false, narrowed := true }
def FnPathsRankedUptoSaid : Prop := fnPathsRankedUptoRow.holds Try.pinned (OpenSpec.upto fnPathsRankedSpec)

/-- 'laws.FnExactIsPath', WHERE WHAT IT READS IS OF BULK AT MOST 1048576: true; the input reads as it did. -/
def fnExactIsPathUptoRow : OpenClaim := { program := "ytdekjmbbogddgaa", sum := "a3b3f15296e27edf7144098e06f8caf8007fabee1946adacfa2d555681ba62a2", func := "loop.example/g01218/laws.FnExactIsPath", spec := "fnExactIsPath", apart := false, narrowed := true }
def FnExactIsPathUptoSaid : Prop := fnExactIsPathUptoRow.holds Try.pinned (OpenSpec.upto fnExactIsPathSpec)

/-- 'laws.FnExactHeightsOf', WHERE WHAT IT READS IS OF BULK AT MOST 1048576: true; the input reads as it did. -/
def fnExactHeightsOfUptoRow : OpenClaim := { program := "ytdekjmbbogddgaa", sum := "a3b3f15296e27edf7144098e06f8caf8007fabee1946adacfa2d555681ba62a2", func := "loop.example/g01218/laws.FnExactHeightsOf", spec := "fnExactHeightsOf", apart := false, narrowed := true }
def FnExactHeightsOfUptoSaid : Prop := fnExactHeightsOfUptoRow.holds Try.pinned (OpenSpec.upto fnExactHeightsOfSpec)

/-- 'laws.FnExactEndHeight', WHERE WHAT IT READS IS OF BULK AT MOST 1048576: true; the input reads as it did. -/
def fnExactEndHeightUptoRow : OpenClaim := { program := "ytdekjmbbogddgaa", sum := "a3b3f15296e27edf7144098e06f8caf8007fabee1946adacfa2d555681ba62a2", func := "loop.example/g01218/laws.FnExactEndHeight", spec := "fnExactEndHeight", apart := false, narrowed := true }
def FnExactEndHeightUptoSaid : Prop := fnExactEndHeightUptoRow.holds Try.pinned (OpenSpec.upto fnExactEndHeightSpec)

/-- 'laws.FnExactLowestOf', WHERE WHAT IT READS IS OF BULK AT MOST 1048576: true; the input reads as it did. -/
def fnExactLowestOfUptoRow : OpenClaim := { program := "ytdekjmbbogddgaa", sum := "a3b3f15296e27edf7144098e06f8caf8007fabee1946adacfa2d555681ba62a2", func := "loop.example/g01218/laws.FnExactLowestOf", spec := "fnExactLowestOf", apart := false, narrowed := true }
def FnExactLowestOfUptoSaid : Prop := fnExactLowestOfUptoRow.holds Try.pinned (OpenSpec.upto fnExactLowestOfSpec)

/-- 'laws.FnExactHighestOf', WHERE WHAT IT READS IS OF BULK AT MOST 1048576: true; the input reads as it did. -/
def fnExactHighestOfUptoRow : OpenClaim := { program := "ytdekjmbbogddgaa", sum := "a3b3f15296e27edf7144098e06f8caf8007fabee1946adacfa2d555681ba62a2", func := "loop.example/g01218/laws.FnExactHighestOf", spec := "fnExactHighestOf", apart := false, narrowed := true }
def FnExactHighestOfUptoSaid : Prop := fnExactHighestOfUptoRow.holds Try.pinned (OpenSpec.upto fnExactHighestOfSpec)

/-- 'laws.FnExactTimesAtHeight', WHERE WHAT IT READS IS OF BULK AT MOST 1048576: true; the input reads as it did. -/
def fnExactTimesAtHeightUptoRow : OpenClaim := { program := "ytdekjmbbogddgaa", sum := "a3b3f15296e27edf7144098e06f8caf8007fabee1946adacfa2d555681ba62a2", func := "loop.example/g01218/laws.FnExactTimesAtHeight", spec := "fnExactTimesAtHeight", apart := false, narrowed := true }
def FnExactTimesAtHeightUptoSaid : Prop := fnExactTimesAtHeightUptoRow.holds Try.pinned (OpenSpec.upto fnExactTimesAtHeightSpec)

/-- 'laws.FnExactPeaksOf', WHERE WHAT IT READS IS OF BULK AT MOST 1048576: true; the input reads as it did. -/
def fnExactPeaksOfUptoRow : OpenClaim := { program := "ytdekjmbbogddgaa", sum := "a3b3f15296e27edf7144098e06f8caf8007fabee1946adacfa2d555681ba62a2", func := "loop.example/g01218/laws.FnExactPeaksOf", spec := "fnExactPeaksOf", apart := false, narrowed := true }
def FnExactPeaksOfUptoSaid : Prop := fnExactPeaksOfUptoRow.holds Try.pinned (OpenSpec.upto fnExactPeaksOfSpec)

/-- 'laws.FnExactReturnsOf', WHERE WHAT IT READS IS OF BULK AT MOST 1048576: true; the input reads as it did. -/
def fnExactReturnsOfUptoRow : OpenClaim := { program := "ytdekjmbbogddgaa", sum := "a3b3f15296e27edf7144098e06f8caf8007fabee1946adacfa2d555681ba62a2", func := "loop.example/g01218/laws.FnExactReturnsOf", spec := "fnExactReturnsOf", apart := false, narrowed := true }
def FnExactReturnsOfUptoSaid : Prop := fnExactReturnsOfUptoRow.holds Try.pinned (OpenSpec.upto fnExactReturnsOfSpec)

/-- 'laws.FnExactAreaOfPath', WHERE WHAT IT READS IS OF BULK AT MOST 1048576: true; the input reads as it did. -/
def fnExactAreaOfPathUptoRow : OpenClaim := { program := "ytdekjmbbogddgaa", sum := "a3b3f15296e27edf7144098e06f8caf8007fabee1946adacfa2d555681ba62a2", func := "loop.example/g01218/laws.FnExactAreaOfPath", spec := "fnExactAreaOfPath", apart := false, narrowed := true }
def FnExactAreaOfPathUptoSaid : Prop := fnExactAreaOfPathUptoRow.holds Try.pinned (OpenSpec.upto fnExactAreaOfPathSpec)

/-- 'laws.FnExactIsGood', WHERE WHAT IT READS IS OF BULK AT MOST 1048576: true; the input reads as it did. -/
def fnExactIsGoodUptoRow : OpenClaim := { program := "ytdekjmbbogddgaa", sum := "a3b3f15296e27edf7144098e06f8caf8007fabee1946adacfa2d555681ba62a2", func := "loop.example/g01218/laws.FnExactIsGood", spec := "fnExactIsGood", apart := false, narrowed := true }
def FnExactIsGoodUptoSaid : Prop := fnExactIsGoodUptoRow.holds Try.pinned (OpenSpec.upto fnExactIsGoodSpec)

end Rows
end Go.Proofs.Ytdekjmbbogddgaa
