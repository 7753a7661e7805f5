/-
  No cell of these rows narrows 'for every input' (looked for: loops, veiled, ifaces, maps, wideKeys, modest, calm, conditions, laid).
  DERIVED. THE GIVEN ROWS OF THIS SEAT. 16 by the template 'for every input the law returns true; each argument reads behind the call as it read before'; 0 by the template 'total and deterministic' (their statements: YtcnggafbdjhagaaTotals.lean).
  GIVEN WITH THE SEED: the statements are not yours to turn. If you find one false, say at which input.
  Laid BY PROGRAM, IN A SANDBOX (cutbox-rows.mjs): the forced cells as the released guide's own fill.sh prints them over the translation 6776a1c3649b7e01… (all of the seat's roots in one cut). By AI agents, Wed Nov 11 2026. No macro, syntax, notation, axiom, sorry.
-/
import Derived.Test.YtcnggafbdjhagaaChecked
import GoSem.Claim
import GoSem.ClaimJoined
import GoSem.ClaimMapViews
import Derived.JoinedTies
import Derived.KernelRfl
namespace Go.Proofs.Ytcnggafbdjhagaa
/- THE CELL 'sum', in the pinned program and in every row, IS THE sha256 OF THE DUMP (.gsa) THAT YtcnggafbdjhagaaProg.lean LOADS. Nothing in Lean hashes anything: it is a label: what it is worth is what the hold of that sum in a sandbox is worth. -/
noncomputable def Try.pinned : Pinned := { name := "ytcnggafbdjhagaa", sum := "6776a1c3649b7e012435e05a4a38ed8caebffa2f2a4df438b36044a5b858cc00", checked := Try.checked }
namespace Rows
def none {H : Type} : Left H := { results := [], args := [] }

/-- 'laws.FnExactIsAhead': WHATEVER THE INPUT: true; the input reads as it did. -/
def fnExactIsAheadSpec : ChangeSpec := { name := "fnExactIsAhead", fn := fun _ => fun
  | [d1, d2] => { results := [.lit (.bool true)], args := [d1, d2] }
  | _ => none }
def fnExactIsAheadRow : OpenClaim := { program := "ytcnggafbdjhagaa", sum := "6776a1c3649b7e012435e05a4a38ed8caebffa2f2a4df438b36044a5b858cc00", func := "loop.example/g01218/laws.FnExactIsAhead", spec := "fnExactIsAhead", plainKeys := false, apart := false }
def FnExactIsAheadSaid : Prop := fnExactIsAheadRow.holds Try.pinned (OpenSpec.ofChange fnExactIsAheadSpec)

/-- ITS FALSE NEIGHBOUR: 'it returns false'. Refute it at one input. -/
def fnExactIsAheadWrong : ChangeSpec := { name := "fnExactIsAhead", fn := fun _ => fun
  | [d1, d2] => { results := [.lit (.bool false)], args := [d1, d2] }
  | _ => none }
def FnExactIsAheadWrongFalsely : Prop := fnExactIsAheadRow.holds Try.pinned (OpenSpec.ofChange fnExactIsAheadWrong)

/-- 'laws.FnExactIsNeverBehind': WHATEVER THE INPUT: true; the input reads as it did. -/
def fnExactIsNeverBehindSpec : ChangeSpec := { name := "fnExactIsNeverBehind", fn := fun _ => fun
  | [d1, d2] => { results := [.lit (.bool true)], args := [d1, d2] }
  | _ => none }
def fnExactIsNeverBehindRow : OpenClaim := { program := "ytcnggafbdjhagaa", sum := "6776a1c3649b7e012435e05a4a38ed8caebffa2f2a4df438b36044a5b858cc00", func := "loop.example/g01218/laws.FnExactIsNeverBehind", spec := "fnExactIsNeverBehind", plainKeys := false, apart := false }
def FnExactIsNeverBehindSaid : Prop := fnExactIsNeverBehindRow.holds Try.pinned (OpenSpec.ofChange fnExactIsNeverBehindSpec)

/-- ITS FALSE NEIGHBOUR: 'it returns false'. Refute it at one input. -/
def fnExactIsNeverBehindWrong : ChangeSpec := { name := "fnExactIsNeverBehind", fn := fun _ => fun
  | [d1, d2] => { results := [.lit (.bool false)], args := [d1, d2] }
  | _ => none }
def FnExactIsNeverBehindWrongFalsely : Prop := fnExactIsNeverBehindRow.holds Try.pinned (OpenSpec.ofChange fnExactIsNeverBehindWrong)

/-- 'laws.FnExactFirstNotAhead': WHATEVER THE INPUT: true; the input reads as it did. -/
def fnExactFirstNotAheadSpec : ChangeSpec := { name := "fnExactFirstNotAhead", fn := fun _ => fun
  | [d1, d2] => { results := [.lit (.bool true)], args := [d1, d2] }
  | _ => none }
def fnExactFirstNotAheadRow : OpenClaim := { program := "ytcnggafbdjhagaa", sum := "6776a1c3649b7e012435e05a4a38ed8caebffa2f2a4df438b36044a5b858cc00", func := "loop.example/g01218/laws.FnExactFirstNotAhead", spec := "fnExactFirstNotAhead", plainKeys := false, apart := false }
def FnExactFirstNotAheadSaid : Prop := fnExactFirstNotAheadRow.holds Try.pinned (OpenSpec.ofChange fnExactFirstNotAheadSpec)

/-- ITS FALSE NEIGHBOUR: 'it returns false'. Refute it at one input. -/
def fnExactFirstNotAheadWrong : ChangeSpec := { name := "fnExactFirstNotAhead", fn := fun _ => fun
  | [d1, d2] => { results := [.lit (.bool false)], args := [d1, d2] }
  | _ => none }
def FnExactFirstNotAheadWrongFalsely : Prop := fnExactFirstNotAheadRow.holds Try.pinned (OpenSpec.ofChange fnExactFirstNotAheadWrong)

/-- 'laws.FnExactFirstBehind': WHATEVER THE INPUT: true; the input reads as it did. -/
def fnExactFirstBehindSpec : ChangeSpec := { name := "fnExactFirstBehind", fn := fun _ => fun
  | [d1, d2] => { results := [.lit (.bool true)], args := [d1, d2] }
  | _ => none }
def fnExactFirstBehindRow : OpenClaim := { program := "ytcnggafbdjhagaa", sum := "6776a1c3649b7e012435e05a4a38ed8caebffa2f2a4df438b36044a5b858cc00", func := "loop.example/g01218/laws.FnExactFirstBehind", spec := "fnExactFirstBehind", plainKeys := false, apart := false }
def FnExactFirstBehindSaid : Prop := fnExactFirstBehindRow.holds Try.pinned (OpenSpec.ofChange fnExactFirstBehindSpec)

/-- ITS FALSE NEIGHBOUR: 'it returns false'. Refute it at one input. -/
def fnExactFirstBehindWrong : ChangeSpec := { name := "fnExactFirstBehind", fn := fun _ => fun
  | [d1, d2] => { results := [.lit (.bool false)], args := [d1, d2] }
  | _ => none }
def FnExactFirstBehindWrongFalsely : Prop := fnExactFirstBehindRow.holds Try.pinned (OpenSpec.ofChange fnExactFirstBehindWrong)

/-- 'laws.FnExactTiesOf': WHATEVER THE INPUT: true; the input reads as it did. -/
def fnExactTiesOfSpec : ChangeSpec := { name := "fnExactTiesOf", fn := fun _ => fun
  | [d1, d2] => { results := [.lit (.bool true)], args := [d1, d2] }
  | _ => none }
def fnExactTiesOfRow : OpenClaim := { program := "ytcnggafbdjhagaa", sum := "6776a1c3649b7e012435e05a4a38ed8caebffa2f2a4df438b36044a5b858cc00", func := "loop.example/g01218/laws.FnExactTiesOf", spec := "fnExactTiesOf", plainKeys := false, apart := false }
def FnExactTiesOfSaid : Prop := fnExactTiesOfRow.holds Try.pinned (OpenSpec.ofChange fnExactTiesOfSpec)

/-- ITS FALSE NEIGHBOUR: 'it returns false'. Refute it at one input. -/
def fnExactTiesOfWrong : ChangeSpec := { name := "fnExactTiesOf", fn := fun _ => fun
  | [d1, d2] => { results := [.lit (.bool false)], args := [d1, d2] }
  | _ => none }
def FnExactTiesOfWrongFalsely : Prop := fnExactTiesOfRow.holds Try.pinned (OpenSpec.ofChange fnExactTiesOfWrong)

/-- 'laws.FnExactCountAhead': WHATEVER THE INPUT: true; the input reads as it did. -/
def fnExactCountAheadSpec : ChangeSpec := { name := "fnExactCountAhead", fn := fun _ => fun
  | [d1, d2, d3] => { results := [.lit (.bool true)], args := [d1, d2, d3] }
  | _ => none }
def fnExactCountAheadRow : OpenClaim := { program := "ytcnggafbdjhagaa", sum := "6776a1c3649b7e012435e05a4a38ed8caebffa2f2a4df438b36044a5b858cc00", func := "loop.example/g01218/laws.FnExactCountAhead", spec := "fnExactCountAhead", plainKeys := false, apart := false }
def FnExactCountAheadSaid : Prop := fnExactCountAheadRow.holds Try.pinned (OpenSpec.ofChange fnExactCountAheadSpec)

/-- ITS FALSE NEIGHBOUR: 'it returns false'. Refute it at one input. -/
def fnExactCountAheadWrong : ChangeSpec := { name := "fnExactCountAhead", fn := fun _ => fun
  | [d1, d2, d3] => { results := [.lit (.bool false)], args := [d1, d2, d3] }
  | _ => none }
def FnExactCountAheadWrongFalsely : Prop := fnExactCountAheadRow.holds Try.pinned (OpenSpec.ofChange fnExactCountAheadWrong)

/-- 'laws.FnExactCountNeverBehind': WHATEVER THE INPUT: true; the input reads as it did. -/
def fnExactCountNeverBehindSpec : ChangeSpec := { name := "fnExactCountNeverBehind", fn := fun _ => fun
  | [d1, d2, d3] => { results := [.lit (.bool true)], args := [d1, d2, d3] }
  | _ => none }
def fnExactCountNeverBehindRow : OpenClaim := { program := "ytcnggafbdjhagaa", sum := "6776a1c3649b7e012435e05a4a38ed8caebffa2f2a4df438b36044a5b858cc00", func := "loop.example/g01218/laws.FnExactCountNeverBehind", spec := "fnExactCountNeverBehind", plainKeys := false, apart := false }
def FnExactCountNeverBehindSaid : Prop := fnExactCountNeverBehindRow.holds Try.pinned (OpenSpec.ofChange fnExactCountNeverBehindSpec)

/-- ITS FALSE NEIGHBOUR: 'it returns false'. Refute it at one input. -/
def fnExactCountNeverBehindWrong : ChangeSpec := { name := "fnExactCountNeverBehind", fn := fun _ => fun
  | [d1, d2, d3] => { results := [.lit (.bool false)], args := [d1, d2, d3] }
  | _ => none }
def FnExactCountNeverBehindWrongFalsely : Prop := fnExactCountNeverBehindRow.holds Try.pinned (OpenSpec.ofChange fnExactCountNeverBehindWrong)

/-- 'laws.FnExactChanceAhead': WHATEVER THE INPUT: true; the input reads as it did. -/
def fnExactChanceAheadSpec : ChangeSpec := { name := "fnExactChanceAhead", fn := fun _ => fun
  | [d1, d2, d3] => { results := [.lit (.bool true)], args := [d1, d2, d3] }
  | _ => none }
def fnExactChanceAheadRow : OpenClaim := { program := "ytcnggafbdjhagaa", sum := "6776a1c3649b7e012435e05a4a38ed8caebffa2f2a4df438b36044a5b858cc00", func := "loop.example/g01218/laws.FnExactChanceAhead", spec := "fnExactChanceAhead", plainKeys := false, apart := false }
def FnExactChanceAheadSaid : Prop := fnExactChanceAheadRow.holds Try.pinned (OpenSpec.ofChange fnExactChanceAheadSpec)

/-- ITS FALSE NEIGHBOUR: 'it returns false'. Refute it at one input. -/
def fnExactChanceAheadWrong : ChangeSpec := { name := "fnExactChanceAhead", fn := fun _ => fun
  | [d1, d2, d3] => { results := [.lit (.bool false)], args := [d1, d2, d3] }
  | _ => none }
def FnExactChanceAheadWrongFalsely : Prop := fnExactChanceAheadRow.holds Try.pinned (OpenSpec.ofChange fnExactChanceAheadWrong)

/-- 'laws.FnExactChanceNeverBehind': WHATEVER THE INPUT: true; the input reads as it did. -/
def fnExactChanceNeverBehindSpec : ChangeSpec := { name := "fnExactChanceNeverBehind", fn := fun _ => fun
  | [d1, d2, d3] => { results := [.lit (.bool true)], args := [d1, d2, d3] }
  | _ => none }
def fnExactChanceNeverBehindRow : OpenClaim := { program := "ytcnggafbdjhagaa", sum := "6776a1c3649b7e012435e05a4a38ed8caebffa2f2a4df438b36044a5b858cc00", func := "loop.example/g01218/laws.FnExactChanceNeverBehind", spec := "fnExactChanceNeverBehind", plainKeys := false, apart := false }
def FnExactChanceNeverBehindSaid : Prop := fnExactChanceNeverBehindRow.holds Try.pinned (OpenSpec.ofChange fnExactChanceNeverBehindSpec)

/-- ITS FALSE NEIGHBOUR: 'it returns false'. Refute it at one input. -/
def fnExactChanceNeverBehindWrong : ChangeSpec := { name := "fnExactChanceNeverBehind", fn := fun _ => fun
  | [d1, d2, d3] => { results := [.lit (.bool false)], args := [d1, d2, d3] }
  | _ => none }
def FnExactChanceNeverBehindWrongFalsely : Prop := fnExactChanceNeverBehindRow.holds Try.pinned (OpenSpec.ofChange fnExactChanceNeverBehindWrong)

/-- 'laws.FnExactAllAhead': WHATEVER THE INPUT: true; the input reads as it did. -/
def fnExactAllAheadSpec : ChangeSpec := { name := "fnExactAllAhead", fn := fun _ => fun
  | [d1, d2, d3] => { results := [.lit (.bool true)], args := [d1, d2, d3] }
  | _ => none }
def fnExactAllAheadRow : OpenClaim := { program := "ytcnggafbdjhagaa", sum := "6776a1c3649b7e012435e05a4a38ed8caebffa2f2a4df438b36044a5b858cc00", func := "loop.example/g01218/laws.FnExactAllAhead", spec := "fnExactAllAhead", recurses := true, plainKeys := false, apart := false }
def FnExactAllAheadSaid : Prop := fnExactAllAheadRow.holds Try.pinned (OpenSpec.ofChange fnExactAllAheadSpec)

/-- ITS FALSE NEIGHBOUR: 'it returns false'. Refute it at one input. -/
def fnExactAllAheadWrong : ChangeSpec := { name := "fnExactAllAhead", fn := fun _ => fun
  | [d1, d2, d3] => { results := [.lit (.bool false)], args := [d1, d2, d3] }
  | _ => none }
def FnExactAllAheadWrongFalsely : Prop := fnExactAllAheadRow.holds Try.pinned (OpenSpec.ofChange fnExactAllAheadWrong)

/-- 'laws.FnExactAllNeverBehind': WHATEVER THE INPUT: true; the input reads as it did. -/
def fnExactAllNeverBehindSpec : ChangeSpec := { name := "fnExactAllNeverBehind", fn := fun _ => fun
  | [d1, d2, d3] => { results := [.lit (.bool true)], args := [d1, d2, d3] }
  | _ => none }
def fnExactAllNeverBehindRow : OpenClaim := { program := "ytcnggafbdjhagaa", sum := "6776a1c3649b7e012435e05a4a38ed8caebffa2f2a4df438b36044a5b858cc00", func := "loop.example/g01218/laws.FnExactAllNeverBehind", spec := "fnExactAllNeverBehind", recurses := true, plainKeys := false, apart := false }
def FnExactAllNeverBehindSaid : Prop := fnExactAllNeverBehindRow.holds Try.pinned (OpenSpec.ofChange fnExactAllNeverBehindSpec)

/-- ITS FALSE NEIGHBOUR: 'it returns false'. Refute it at one input. -/
def fnExactAllNeverBehindWrong : ChangeSpec := { name := "fnExactAllNeverBehind", fn := fun _ => fun
  | [d1, d2, d3] => { results := [.lit (.bool false)], args := [d1, d2, d3] }
  | _ => none }
def FnExactAllNeverBehindWrongFalsely : Prop := fnExactAllNeverBehindRow.holds Try.pinned (OpenSpec.ofChange fnExactAllNeverBehindWrong)

/-- 'laws.FnExactRankNeverBehind': WHATEVER THE INPUT: true; the input reads as it did. -/
def fnExactRankNeverBehindSpec : ChangeSpec := { name := "fnExactRankNeverBehind", fn := fun _ => fun
  | [d1, d2] => { results := [.lit (.bool true)], args := [d1, d2] }
  | _ => none }
def fnExactRankNeverBehindRow : OpenClaim := { program := "ytcnggafbdjhagaa", sum := "6776a1c3649b7e012435e05a4a38ed8caebffa2f2a4df438b36044a5b858cc00", func := "loop.example/g01218/laws.FnExactRankNeverBehind", spec := "fnExactRankNeverBehind", inPlace := ["internal/bytealg.CountString", "internal/bytealg.IndexByteString", "internal/bytealg.IndexString"], recurses := true, named := ["internal/bytealg.MaxLen"], plainKeys := false, apart := false }
def FnExactRankNeverBehindSaid : Prop := fnExactRankNeverBehindRow.holds Try.pinned (OpenSpec.ofChange fnExactRankNeverBehindSpec)

/-- ITS FALSE NEIGHBOUR: 'it returns false'. Refute it at one input. -/
def fnExactRankNeverBehindWrong : ChangeSpec := { name := "fnExactRankNeverBehind", fn := fun _ => fun
  | [d1, d2] => { results := [.lit (.bool false)], args := [d1, d2] }
  | _ => none }
def FnExactRankNeverBehindWrongFalsely : Prop := fnExactRankNeverBehindRow.holds Try.pinned (OpenSpec.ofChange fnExactRankNeverBehindWrong)

/-- 'laws.FnExactNeverBehindOfRank': WHATEVER THE INPUT: true; the input reads as it did. -/
def fnExactNeverBehindOfRankSpec : ChangeSpec := { name := "fnExactNeverBehindOfRank", fn := fun _ => fun
  | [d1, d2, d3, d4] => { results := [.lit (.bool true)], args := [d1, d2, d3, d4] }
  | _ => none }
def fnExactNeverBehindOfRankRow : OpenClaim := { program := "ytcnggafbdjhagaa", sum := "6776a1c3649b7e012435e05a4a38ed8caebffa2f2a4df438b36044a5b858cc00", func := "loop.example/g01218/laws.FnExactNeverBehindOfRank", spec := "fnExactNeverBehindOfRank", recurses := true, plainKeys := false, apart := false }
def FnExactNeverBehindOfRankSaid : Prop := fnExactNeverBehindOfRankRow.holds Try.pinned (OpenSpec.ofChange fnExactNeverBehindOfRankSpec)

/-- ITS FALSE NEIGHBOUR: 'it returns false'. Refute it at one input. -/
def fnExactNeverBehindOfRankWrong : ChangeSpec := { name := "fnExactNeverBehindOfRank", fn := fun _ => fun
  | [d1, d2, d3, d4] => { results := [.lit (.bool false)], args := [d1, d2, d3, d4] }
  | _ => none }
def FnExactNeverBehindOfRankWrongFalsely : Prop := fnExactNeverBehindOfRankRow.holds Try.pinned (OpenSpec.ofChange fnExactNeverBehindOfRankWrong)

/-- 'laws.FnExactCountWithTies': WHATEVER THE INPUT: true; the input reads as it did. -/
def fnExactCountWithTiesSpec : ChangeSpec := { name := "fnExactCountWithTies", fn := fun _ => fun
  | [d1, d2] => { results := [.lit (.bool true)], args := [d1, d2] }
  | _ => none }
def fnExactCountWithTiesRow : OpenClaim := { program := "ytcnggafbdjhagaa", sum := "6776a1c3649b7e012435e05a4a38ed8caebffa2f2a4df438b36044a5b858cc00", func := "loop.example/g01218/laws.FnExactCountWithTies", spec := "fnExactCountWithTies", plainKeys := false, apart := false }
def FnExactCountWithTiesSaid : Prop := fnExactCountWithTiesRow.holds Try.pinned (OpenSpec.ofChange fnExactCountWithTiesSpec)

/-- ITS FALSE NEIGHBOUR: 'it returns false'. Refute it at one input. -/
def fnExactCountWithTiesWrong : ChangeSpec := { name := "fnExactCountWithTies", fn := fun _ => fun
  | [d1, d2] => { results := [.lit (.bool false)], args := [d1, d2] }
  | _ => none }
def FnExactCountWithTiesWrongFalsely : Prop := fnExactCountWithTiesRow.holds Try.pinned (OpenSpec.ofChange fnExactCountWithTiesWrong)

/-- 'laws.FnExactLeadsOf': WHATEVER THE INPUT: true; the input reads as it did. -/
def fnExactLeadsOfSpec : ChangeSpec := { name := "fnExactLeadsOf", fn := fun _ => fun
  | [d] => { results := [.lit (.bool true)], args := [d] }
  | _ => none }
def fnExactLeadsOfRow : OpenClaim := { program := "ytcnggafbdjhagaa", sum := "6776a1c3649b7e012435e05a4a38ed8caebffa2f2a4df438b36044a5b858cc00", func := "loop.example/g01218/laws.FnExactLeadsOf", spec := "fnExactLeadsOf", plainKeys := false, apart := false }
def FnExactLeadsOfSaid : Prop := fnExactLeadsOfRow.holds Try.pinned (OpenSpec.ofChange fnExactLeadsOfSpec)

/-- ITS FALSE NEIGHBOUR: 'it returns false'. Refute it at one input. -/
def fnExactLeadsOfWrong : ChangeSpec := { name := "fnExactLeadsOf", fn := fun _ => fun
  | [d] => { results := [.lit (.bool false)], args := [d] }
  | _ => none }
def FnExactLeadsOfWrongFalsely : Prop := fnExactLeadsOfRow.holds Try.pinned (OpenSpec.ofChange fnExactLeadsOfWrong)

/-- 'laws.FnExactWithFirstVote': WHATEVER THE INPUT: true; the input reads as it did. -/
def fnExactWithFirstVoteSpec : ChangeSpec := { name := "fnExactWithFirstVote", fn := fun _ => fun
  | [d] => { results := [.lit (.bool true)], args := [d] }
  | _ => none }
def fnExactWithFirstVoteRow : OpenClaim := { program := "ytcnggafbdjhagaa", sum := "6776a1c3649b7e012435e05a4a38ed8caebffa2f2a4df438b36044a5b858cc00", func := "loop.example/g01218/laws.FnExactWithFirstVote", spec := "fnExactWithFirstVote", plainKeys := false, apart := false }
def FnExactWithFirstVoteSaid : Prop := fnExactWithFirstVoteRow.holds Try.pinned (OpenSpec.ofChange fnExactWithFirstVoteSpec)

/-- ITS FALSE NEIGHBOUR: 'it returns false'. Refute it at one input. -/
def fnExactWithFirstVoteWrong : ChangeSpec := { name := "fnExactWithFirstVote", fn := fun _ => fun
  | [d] => { results := [.lit (.bool false)], args := [d] }
  | _ => none }
def FnExactWithFirstVoteWrongFalsely : Prop := fnExactWithFirstVoteRow.holds Try.pinned (OpenSpec.ofChange fnExactWithFirstVoteWrong)

/- THE SECOND FORM. 'bulk': how many values and letters a reading holds, each counted each time it is reached (what is shared counts as often as it is met; a slice's spare places count too). A statement '..UptoSaid' is the law's where the arguments, and the package variables that the reading takes, are together of bulk at most 1048576: NARROWER than '..Said'. Prove '..Said' where nothing that the law and all that it calls make is longer than what came in: it says more and counts as full. Else prove '..UptoSaid'. A law counts once. -/
mutual
def uptoBulk {H : Type} : DataW H → Nat
  | .lit (.string bytes) => bytes.length + 1
  | .lit _ => 1
  | .nil => 1
  | .ptr d => uptoBulk d + 1
  | .slice elems spare => uptoBulkAll elems + uptoBulkAll spare + 1
  | .agg parts => uptoBulkAll parts + 1
  | .iface _ d => uptoBulk d + 1
  | .map entries => uptoBulkEntries entries + 1
  | .held _ => 1
def uptoBulkAll {H : Type} : List (DataW H) → Nat
  | [] => 0
  | d :: r => uptoBulk d + uptoBulkAll r
def uptoBulkEntries {H : Type} : List (Lit × DataW H) → Nat
  | [] => 0
  | x :: r => uptoBulkEntry x + uptoBulkEntries r
def uptoBulkEntry {H : Type} : Lit × DataW H → Nat
  | (.string bytes, d) => bytes.length + uptoBulk d + 1
  | (_, d) => uptoBulk d + 1
 end
def uptoSmall : (H : Type) → List (DataW H) → Bool := fun _ ds => decide (uptoBulkAll ds ≤ 1048576)
def OpenSpec.upto (s : _root_.Go.ChangeSpec) : _root_.Go.OpenSpec := { _root_.Go.OpenSpec.ofChange s with cond := some uptoSmall }

/-- 'laws.FnExactIsAhead', WHERE WHAT IT READS IS OF BULK AT MOST 1048576: true; the input reads as it did. -/
def fnExactIsAheadUptoRow : OpenClaim := { program := "ytcnggafbdjhagaa", sum := "6776a1c3649b7e012435e05a4a38ed8caebffa2f2a4df438b36044a5b858cc00", func := "loop.example/g01218/laws.FnExactIsAhead", spec := "fnExactIsAhead", plainKeys := false, apart := false, narrowed := true }
def FnExactIsAheadUptoSaid : Prop := fnExactIsAheadUptoRow.holds Try.pinned (OpenSpec.upto fnExactIsAheadSpec)

/-- 'laws.FnExactIsNeverBehind', WHERE WHAT IT READS IS OF BULK AT MOST 1048576: true; the input reads as it did. -/
def fnExactIsNeverBehindUptoRow : OpenClaim := { program := "ytcnggafbdjhagaa", sum := "6776a1c3649b7e012435e05a4a38ed8caebffa2f2a4df438b36044a5b858cc00", func := "loop.example/g01218/laws.FnExactIsNeverBehind", spec := "fnExactIsNeverBehind", plainKeys := false, apart := false, narrowed := true }
def FnExactIsNeverBehindUptoSaid : Prop := fnExactIsNeverBehindUptoRow.holds Try.pinned (OpenSpec.upto fnExactIsNeverBehindSpec)

/-- 'laws.FnExactFirstNotAhead', WHERE WHAT IT READS IS OF BULK AT MOST 1048576: true; the input reads as it did. -/
def fnExactFirstNotAheadUptoRow : OpenClaim := { program := "ytcnggafbdjhagaa", sum := "6776a1c3649b7e012435e05a4a38ed8caebffa2f2a4df438b36044a5b858cc00", func := "loop.example/g01218/laws.FnExactFirstNotAhead", spec := "fnExactFirstNotAhead", plainKeys := false, apart := false, narrowed := true }
def FnExactFirstNotAheadUptoSaid : Prop := fnExactFirstNotAheadUptoRow.holds Try.pinned (OpenSpec.upto fnExactFirstNotAheadSpec)

/-- 'laws.FnExactFirstBehind', WHERE WHAT IT READS IS OF BULK AT MOST 1048576: true; the input reads as it did. -/
def fnExactFirstBehindUptoRow : OpenClaim := { program := "ytcnggafbdjhagaa", sum := "6776a1c3649b7e012435e05a4a38ed8caebffa2f2a4df438b36044a5b858cc00", func := "loop.example/g01218/laws.FnExactFirstBehind", spec := "fnExactFirstBehind", plainKeys := false, apart := false, narrowed := true }
def FnExactFirstBehindUptoSaid : Prop := fnExactFirstBehindUptoRow.holds Try.pinned (OpenSpec.upto fnExactFirstBehindSpec)

/-- 'laws.FnExactTiesOf', WHERE WHAT IT READS IS OF BULK AT MOST 1048576: true; the input reads as it did. -/
def fnExactTiesOfUptoRow : OpenClaim := { program := "ytcnggafbdjhagaa", sum := "6776a1c3649b7e012435e05a4a38ed8caebffa2f2a4df438b36044a5b858cc00", func := "loop.example/g01218/laws.FnExactTiesOf", spec := "fnExactTiesOf", plainKeys := false, apart := false, narrowed := true }
def FnExactTiesOfUptoSaid : Prop := fnExactTiesOfUptoRow.holds Try.pinned (OpenSpec.upto fnExactTiesOfSpec)

/-- 'laws.FnExactCountAhead', WHERE WHAT IT READS IS OF BULK AT MOST 1048576: true; the input reads as it did. -/
def fnExactCountAheadUptoRow : OpenClaim := { program := "ytcnggafbdjhagaa", sum := "6776a1c3649b7e012435e05a4a38ed8caebffa2f2a4df438b36044a5b858cc00", func := "loop.example/g01218/laws.FnExactCountAhead", spec := "fnExactCountAhead", plainKeys := false, apart := false, narrowed := true }
def FnExactCountAheadUptoSaid : Prop := fnExactCountAheadUptoRow.holds Try.pinned (OpenSpec.upto fnExactCountAheadSpec)

/-- 'laws.FnExactCountNeverBehind', WHERE WHAT IT READS IS OF BULK AT MOST 1048576: true; the input reads as it did. -/
def fnExactCountNeverBehindUptoRow : OpenClaim := { program := "ytcnggafbdjhagaa", sum := "6776a1c3649b7e012435e05a4a38ed8caebffa2f2a4df438b36044a5b858cc00", func := "loop.example/g01218/laws.FnExactCountNeverBehind", spec := "fnExactCountNeverBehind", plainKeys := false, apart := false, narrowed := true }
def FnExactCountNeverBehindUptoSaid : Prop := fnExactCountNeverBehindUptoRow.holds Try.pinned (OpenSpec.upto fnExactCountNeverBehindSpec)

/-- 'laws.FnExactChanceAhead', WHERE WHAT IT READS IS OF BULK AT MOST 1048576: true; the input reads as it did. -/
def fnExactChanceAheadUptoRow : OpenClaim := { program := "ytcnggafbdjhagaa", sum := "6776a1c3649b7e012435e05a4a38ed8caebffa2f2a4df438b36044a5b858cc00", func := "loop.example/g01218/laws.FnExactChanceAhead", spec := "fnExactChanceAhead", plainKeys := false, apart := false, narrowed := true }
def FnExactChanceAheadUptoSaid : Prop := fnExactChanceAheadUptoRow.holds Try.pinned (OpenSpec.upto fnExactChanceAheadSpec)

/-- 'laws.FnExactChanceNeverBehind', WHERE WHAT IT READS IS OF BULK AT MOST 1048576: true; the input reads as it did. -/
def fnExactChanceNeverBehindUptoRow : OpenClaim := { program := "ytcnggafbdjhagaa", sum := "6776a1c3649b7e012435e05a4a38ed8caebffa2f2a4df438b36044a5b858cc00", func := "loop.example/g01218/laws.FnExactChanceNeverBehind", spec := "fnExactChanceNeverBehind", plainKeys := false, apart := false, narrowed := true }
def FnExactChanceNeverBehindUptoSaid : Prop := fnExactChanceNeverBehindUptoRow.holds Try.pinned (OpenSpec.upto fnExactChanceNeverBehindSpec)

/-- 'laws.FnExactAllAhead', WHERE WHAT IT READS IS OF BULK AT MOST 1048576: true; the input reads as it did. -/
def fnExactAllAheadUptoRow : OpenClaim := { program := "ytcnggafbdjhagaa", sum := "6776a1c3649b7e012435e05a4a38ed8caebffa2f2a4df438b36044a5b858cc00", func := "loop.example/g01218/laws.FnExactAllAhead", spec := "fnExactAllAhead", recurses := true, plainKeys := false, apart := false, narrowed := true }
def FnExactAllAheadUptoSaid : Prop := fnExactAllAheadUptoRow.holds Try.pinned (OpenSpec.upto fnExactAllAheadSpec)

/-- 'laws.FnExactAllNeverBehind', WHERE WHAT IT READS IS OF BULK AT MOST 1048576: true; the input reads as it did. -/
def fnExactAllNeverBehindUptoRow : OpenClaim := { program := "ytcnggafbdjhagaa", sum := "6776a1c3649b7e012435e05a4a38ed8caebffa2f2a4df438b36044a5b858cc00", func := "loop.example/g01218/laws.FnExactAllNeverBehind", spec := "fnExactAllNeverBehind", recurses := true, plainKeys := false, apart := false, narrowed := true }
def FnExactAllNeverBehindUptoSaid : Prop := fnExactAllNeverBehindUptoRow.holds Try.pinned (OpenSpec.upto fnExactAllNeverBehindSpec)

/-- 'laws.FnExactRankNeverBehind', WHERE WHAT IT READS IS OF BULK AT MOST 1048576: true; the input reads as it did. -/
def fnExactRankNeverBehindUptoRow : OpenClaim := { program := "ytcnggafbdjhagaa", sum := "6776a1c3649b7e012435e05a4a38ed8caebffa2f2a4df438b36044a5b858cc00", func := "loop.example/g01218/laws.FnExactRankNeverBehind", spec := "fnExactRankNeverBehind", inPlace := ["internal/bytealg.CountString", "internal/bytealg.IndexByteString", "internal/bytealg.IndexString"], recurses := true, named := ["internal/bytealg.MaxLen"], plainKeys := false, apart := false, narrowed := true }
def FnExactRankNeverBehindUptoSaid : Prop := fnExactRankNeverBehindUptoRow.holds Try.pinned (OpenSpec.upto fnExactRankNeverBehindSpec)

/-- 'laws.FnExactNeverBehindOfRank', WHERE WHAT IT READS IS OF BULK AT MOST 1048576: true; the input reads as it did. -/
def fnExactNeverBehindOfRankUptoRow : OpenClaim := { program := "ytcnggafbdjhagaa", sum := "6776a1c3649b7e012435e05a4a38ed8caebffa2f2a4df438b36044a5b858cc00", func := "loop.example/g01218/laws.FnExactNeverBehindOfRank", spec := "fnExactNeverBehindOfRank", recurses := true, plainKeys := false, apart := false, narrowed := true }
def FnExactNeverBehindOfRankUptoSaid : Prop := fnExactNeverBehindOfRankUptoRow.holds Try.pinned (OpenSpec.upto fnExactNeverBehindOfRankSpec)

/-- 'laws.FnExactCountWithTies', WHERE WHAT IT READS IS OF BULK AT MOST 1048576: true; the input reads as it did. -/
def fnExactCountWithTiesUptoRow : OpenClaim := { program := "ytcnggafbdjhagaa", sum := "6776a1c3649b7e012435e05a4a38ed8caebffa2f2a4df438b36044a5b858cc00", func := "loop.example/g01218/laws.FnExactCountWithTies", spec := "fnExactCountWithTies", plainKeys := false, apart := false, narrowed := true }
def FnExactCountWithTiesUptoSaid : Prop := fnExactCountWithTiesUptoRow.holds Try.pinned (OpenSpec.upto fnExactCountWithTiesSpec)

/-- 'laws.FnExactLeadsOf', WHERE WHAT IT READS IS OF BULK AT MOST 1048576: true; the input reads as it did. -/
def fnExactLeadsOfUptoRow : OpenClaim := { program := "ytcnggafbdjhagaa", sum := "6776a1c3649b7e012435e05a4a38ed8caebffa2f2a4df438b36044a5b858cc00", func := "loop.example/g01218/laws.FnExactLeadsOf", spec := "fnExactLeadsOf", plainKeys := false, apart := false, narrowed := true }
def FnExactLeadsOfUptoSaid : Prop := fnExactLeadsOfUptoRow.holds Try.pinned (OpenSpec.upto fnExactLeadsOfSpec)

/-- 'laws.FnExactWithFirstVote', WHERE WHAT IT READS IS OF BULK AT MOST 1048576: true; the input reads as it did. -/
def fnExactWithFirstVoteUptoRow : OpenClaim := { program := "ytcnggafbdjhagaa", sum := "6776a1c3649b7e012435e05a4a38ed8caebffa2f2a4df438b36044a5b858cc00", func := "loop.example/g01218/laws.FnExactWithFirstVote", spec := "fnExactWithFirstVote", plainKeys := false, apart := false, narrowed := true }
def FnExactWithFirstVoteUptoSaid : Prop := fnExactWithFirstVoteUptoRow.holds Try.pinned (OpenSpec.upto fnExactWithFirstVoteSpec)

end Rows
end Go.Proofs.Ytcnggafbdjhagaa
