/-
  No cell of these rows narrows 'for every input' (looked for: loops, veiled, ifaces, maps, wideKeys, modest, calm, conditions, laid).
  DERIVED. THE GIVEN ROWS OF THIS SEAT. 15 by the template 'for every input the law returns true; each argument reads behind the call as it read before'; 0 by the template 'total and deterministic' (their statements: YtfimcadnlhohlaaTotals.lean).
  GIVEN WITH THE SEED: the statements are not yours to turn. If you find one false, say at which input.
  Laid BY PROGRAM, IN A SANDBOX (cutbox-rows.mjs): the forced cells as the released guide's own fill.sh prints them over the translation 52654d0b5acc96e6… (all of the seat's roots in one cut). By AI agents, Wed Nov 11 2026. No macro, syntax, notation, axiom, sorry.
-/
import Derived.Test.YtfimcadnlhohlaaChecked
import GoSem.Claim
import GoSem.ClaimJoined
import GoSem.ClaimMapViews
import Derived.JoinedTies
import Derived.KernelRfl
namespace Go.Proofs.Ytfimcadnlhohlaa
/- THE CELL 'sum', in the pinned program and in every row, IS THE sha256 OF THE DUMP (.gsa) THAT YtfimcadnlhohlaaProg.lean LOADS. Nothing in Lean hashes anything: it is a label: what it is worth is what the hold of that sum in a sandbox is worth. -/
noncomputable def Try.pinned : Pinned := { name := "ytfimcadnlhohlaa", sum := "52654d0b5acc96e69b787c9688c4cd9d39b3aacd137b0af913c2434a506d74b9", checked := Try.checked }
namespace Rows
def none {H : Type} : Left H := { results := [], args := [] }

/-- 'laws.FnExactIsChance': WHATEVER THE INPUT: true; the input reads as it did. -/
def fnExactIsChanceSpec : ChangeSpec := { name := "fnExactIsChance", fn := fun _ => fun
  | [d] => { results := [.lit (.bool true)], args := [d] }
  | _ => none }
def fnExactIsChanceRow : OpenClaim := { program := "ytfimcadnlhohlaa", sum := "52654d0b5acc96e69b787c9688c4cd9d39b3aacd137b0af913c2434a506d74b9", func := "loop.example/g01218/laws.FnExactIsChance", spec := "fnExactIsChance", apart := false }
def FnExactIsChanceSaid : Prop := fnExactIsChanceRow.holds Try.pinned (OpenSpec.ofChange fnExactIsChanceSpec)

/-- ITS FALSE NEIGHBOUR: 'it returns false'. Refute it at one input. -/
def fnExactIsChanceWrong : ChangeSpec := { name := "fnExactIsChance", fn := fun _ => fun
  | [d] => { results := [.lit (.bool false)], args := [d] }
  | _ => none }
def FnExactIsChanceWrongFalsely : Prop := fnExactIsChanceRow.holds Try.pinned (OpenSpec.ofChange fnExactIsChanceWrong)

/-- 'laws.FnExactWinChance': WHATEVER THE INPUT: true; the input reads as it did. -/
def fnExactWinChanceSpec : ChangeSpec := { name := "fnExactWinChance", fn := fun _ => fun
  | [d1, d2, d3] => { results := [.lit (.bool true)], args := [d1, d2, d3] }
  | _ => none }
def fnExactWinChanceRow : OpenClaim := { program := "ytfimcadnlhohlaa", sum := "52654d0b5acc96e69b787c9688c4cd9d39b3aacd137b0af913c2434a506d74b9", func := "loop.example/g01218/laws.FnExactWinChance", spec := "fnExactWinChance", apart := false }
def FnExactWinChanceSaid : Prop := fnExactWinChanceRow.holds Try.pinned (OpenSpec.ofChange fnExactWinChanceSpec)

/-- ITS FALSE NEIGHBOUR: 'it returns false'. Refute it at one input. -/
def fnExactWinChanceWrong : ChangeSpec := { name := "fnExactWinChance", fn := fun _ => fun
  | [d1, d2, d3] => { results := [.lit (.bool false)], args := [d1, d2, d3] }
  | _ => none }
def FnExactWinChanceWrongFalsely : Prop := fnExactWinChanceRow.holds Try.pinned (OpenSpec.ofChange fnExactWinChanceWrong)

/-- 'laws.FnExactRuinChance': WHATEVER THE INPUT: true; the input reads as it did. -/
def fnExactRuinChanceSpec : ChangeSpec := { name := "fnExactRuinChance", fn := fun _ => fun
  | [d1, d2, d3] => { results := [.lit (.bool true)], args := [d1, d2, d3] }
  | _ => none }
def fnExactRuinChanceRow : OpenClaim := { program := "ytfimcadnlhohlaa", sum := "52654d0b5acc96e69b787c9688c4cd9d39b3aacd137b0af913c2434a506d74b9", func := "loop.example/g01218/laws.FnExactRuinChance", spec := "fnExactRuinChance", apart := false }
def FnExactRuinChanceSaid : Prop := fnExactRuinChanceRow.holds Try.pinned (OpenSpec.ofChange fnExactRuinChanceSpec)

/-- ITS FALSE NEIGHBOUR: 'it returns false'. Refute it at one input. -/
def fnExactRuinChanceWrong : ChangeSpec := { name := "fnExactRuinChance", fn := fun _ => fun
  | [d1, d2, d3] => { results := [.lit (.bool false)], args := [d1, d2, d3] }
  | _ => none }
def FnExactRuinChanceWrongFalsely : Prop := fnExactRuinChanceRow.holds Try.pinned (OpenSpec.ofChange fnExactRuinChanceWrong)

/-- 'laws.FnExactMeanGames': WHATEVER THE INPUT: true; the input reads as it did. -/
def fnExactMeanGamesSpec : ChangeSpec := { name := "fnExactMeanGames", fn := fun _ => fun
  | [d1, d2, d3] => { results := [.lit (.bool true)], args := [d1, d2, d3] }
  | _ => none }
def fnExactMeanGamesRow : OpenClaim := { program := "ytfimcadnlhohlaa", sum := "52654d0b5acc96e69b787c9688c4cd9d39b3aacd137b0af913c2434a506d74b9", func := "loop.example/g01218/laws.FnExactMeanGames", spec := "fnExactMeanGames", apart := false }
def FnExactMeanGamesSaid : Prop := fnExactMeanGamesRow.holds Try.pinned (OpenSpec.ofChange fnExactMeanGamesSpec)

/-- ITS FALSE NEIGHBOUR: 'it returns false'. Refute it at one input. -/
def fnExactMeanGamesWrong : ChangeSpec := { name := "fnExactMeanGames", fn := fun _ => fun
  | [d1, d2, d3] => { results := [.lit (.bool false)], args := [d1, d2, d3] }
  | _ => none }
def FnExactMeanGamesWrongFalsely : Prop := fnExactMeanGamesRow.holds Try.pinned (OpenSpec.ofChange fnExactMeanGamesWrong)

/-- 'laws.FnExactMeanHeld': WHATEVER THE INPUT: true; the input reads as it did. -/
def fnExactMeanHeldSpec : ChangeSpec := { name := "fnExactMeanHeld", fn := fun _ => fun
  | [d1, d2, d3] => { results := [.lit (.bool true)], args := [d1, d2, d3] }
  | _ => none }
def fnExactMeanHeldRow : OpenClaim := { program := "ytfimcadnlhohlaa", sum := "52654d0b5acc96e69b787c9688c4cd9d39b3aacd137b0af913c2434a506d74b9", func := "loop.example/g01218/laws.FnExactMeanHeld", spec := "fnExactMeanHeld", apart := false }
def FnExactMeanHeldSaid : Prop := fnExactMeanHeldRow.holds Try.pinned (OpenSpec.ofChange fnExactMeanHeldSpec)

/-- ITS FALSE NEIGHBOUR: 'it returns false'. Refute it at one input. -/
def fnExactMeanHeldWrong : ChangeSpec := { name := "fnExactMeanHeld", fn := fun _ => fun
  | [d1, d2, d3] => { results := [.lit (.bool false)], args := [d1, d2, d3] }
  | _ => none }
def FnExactMeanHeldWrongFalsely : Prop := fnExactMeanHeldRow.holds Try.pinned (OpenSpec.ofChange fnExactMeanHeldWrong)

/-- 'laws.FnExactEverRuined': WHATEVER THE INPUT: true; the input reads as it did. -/
def fnExactEverRuinedSpec : ChangeSpec := { name := "fnExactEverRuined", fn := fun _ => fun
  | [d1, d2] => { results := [.lit (.bool true)], args := [d1, d2] }
  | _ => none }
def fnExactEverRuinedRow : OpenClaim := { program := "ytfimcadnlhohlaa", sum := "52654d0b5acc96e69b787c9688c4cd9d39b3aacd137b0af913c2434a506d74b9", func := "loop.example/g01218/laws.FnExactEverRuined", spec := "fnExactEverRuined", apart := false }
def FnExactEverRuinedSaid : Prop := fnExactEverRuinedRow.holds Try.pinned (OpenSpec.ofChange fnExactEverRuinedSpec)

/-- ITS FALSE NEIGHBOUR: 'it returns false'. Refute it at one input. -/
def fnExactEverRuinedWrong : ChangeSpec := { name := "fnExactEverRuined", fn := fun _ => fun
  | [d1, d2] => { results := [.lit (.bool false)], args := [d1, d2] }
  | _ => none }
def FnExactEverRuinedWrongFalsely : Prop := fnExactEverRuinedRow.holds Try.pinned (OpenSpec.ofChange fnExactEverRuinedWrong)

/-- 'laws.FnExactWinWithin': WHATEVER THE INPUT: true; the input reads as it did. -/
def fnExactWinWithinSpec : ChangeSpec := { name := "fnExactWinWithin", fn := fun _ => fun
  | [d1, d2, d3, d4] => { results := [.lit (.bool true)], args := [d1, d2, d3, d4] }
  | _ => none }
def fnExactWinWithinRow : OpenClaim := { program := "ytfimcadnlhohlaa", sum := "52654d0b5acc96e69b787c9688c4cd9d39b3aacd137b0af913c2434a506d74b9", func := "loop.example/g01218/laws.FnExactWinWithin", spec := "fnExactWinWithin", apart := false }
def FnExactWinWithinSaid : Prop := fnExactWinWithinRow.holds Try.pinned (OpenSpec.ofChange fnExactWinWithinSpec)

/-- ITS FALSE NEIGHBOUR: 'it returns false'. Refute it at one input. -/
def fnExactWinWithinWrong : ChangeSpec := { name := "fnExactWinWithin", fn := fun _ => fun
  | [d1, d2, d3, d4] => { results := [.lit (.bool false)], args := [d1, d2, d3, d4] }
  | _ => none }
def FnExactWinWithinWrongFalsely : Prop := fnExactWinWithinRow.holds Try.pinned (OpenSpec.ofChange fnExactWinWithinWrong)

/-- 'laws.FnExactRuinWithin': WHATEVER THE INPUT: true; the input reads as it did. -/
def fnExactRuinWithinSpec : ChangeSpec := { name := "fnExactRuinWithin", fn := fun _ => fun
  | [d1, d2, d3, d4] => { results := [.lit (.bool true)], args := [d1, d2, d3, d4] }
  | _ => none }
def fnExactRuinWithinRow : OpenClaim := { program := "ytfimcadnlhohlaa", sum := "52654d0b5acc96e69b787c9688c4cd9d39b3aacd137b0af913c2434a506d74b9", func := "loop.example/g01218/laws.FnExactRuinWithin", spec := "fnExactRuinWithin", apart := false }
def FnExactRuinWithinSaid : Prop := fnExactRuinWithinRow.holds Try.pinned (OpenSpec.ofChange fnExactRuinWithinSpec)

/-- ITS FALSE NEIGHBOUR: 'it returns false'. Refute it at one input. -/
def fnExactRuinWithinWrong : ChangeSpec := { name := "fnExactRuinWithin", fn := fun _ => fun
  | [d1, d2, d3, d4] => { results := [.lit (.bool false)], args := [d1, d2, d3, d4] }
  | _ => none }
def FnExactRuinWithinWrongFalsely : Prop := fnExactRuinWithinRow.holds Try.pinned (OpenSpec.ofChange fnExactRuinWithinWrong)

/-- 'laws.FnExactStillPlaying': WHATEVER THE INPUT: true; the input reads as it did. -/
def fnExactStillPlayingSpec : ChangeSpec := { name := "fnExactStillPlaying", fn := fun _ => fun
  | [d1, d2, d3, d4] => { results := [.lit (.bool true)], args := [d1, d2, d3, d4] }
  | _ => none }
def fnExactStillPlayingRow : OpenClaim := { program := "ytfimcadnlhohlaa", sum := "52654d0b5acc96e69b787c9688c4cd9d39b3aacd137b0af913c2434a506d74b9", func := "loop.example/g01218/laws.FnExactStillPlaying", spec := "fnExactStillPlaying", apart := false }
def FnExactStillPlayingSaid : Prop := fnExactStillPlayingRow.holds Try.pinned (OpenSpec.ofChange fnExactStillPlayingSpec)

/-- ITS FALSE NEIGHBOUR: 'it returns false'. Refute it at one input. -/
def fnExactStillPlayingWrong : ChangeSpec := { name := "fnExactStillPlaying", fn := fun _ => fun
  | [d1, d2, d3, d4] => { results := [.lit (.bool false)], args := [d1, d2, d3, d4] }
  | _ => none }
def FnExactStillPlayingWrongFalsely : Prop := fnExactStillPlayingRow.holds Try.pinned (OpenSpec.ofChange fnExactStillPlayingWrong)

/-- 'laws.FnExactHeldAfter': WHATEVER THE INPUT: true; the input reads as it did. -/
def fnExactHeldAfterSpec : ChangeSpec := { name := "fnExactHeldAfter", fn := fun _ => fun
  | [d1, d2, d3, d4] => { results := [.lit (.bool true)], args := [d1, d2, d3, d4] }
  | _ => none }
def fnExactHeldAfterRow : OpenClaim := { program := "ytfimcadnlhohlaa", sum := "52654d0b5acc96e69b787c9688c4cd9d39b3aacd137b0af913c2434a506d74b9", func := "loop.example/g01218/laws.FnExactHeldAfter", spec := "fnExactHeldAfter", apart := false }
def FnExactHeldAfterSaid : Prop := fnExactHeldAfterRow.holds Try.pinned (OpenSpec.ofChange fnExactHeldAfterSpec)

/-- ITS FALSE NEIGHBOUR: 'it returns false'. Refute it at one input. -/
def fnExactHeldAfterWrong : ChangeSpec := { name := "fnExactHeldAfter", fn := fun _ => fun
  | [d1, d2, d3, d4] => { results := [.lit (.bool false)], args := [d1, d2, d3, d4] }
  | _ => none }
def FnExactHeldAfterWrongFalsely : Prop := fnExactHeldAfterRow.holds Try.pinned (OpenSpec.ofChange fnExactHeldAfterWrong)

/-- 'laws.FnExactFirstWonOfWinners': WHATEVER THE INPUT: true; the input reads as it did. -/
def fnExactFirstWonOfWinnersSpec : ChangeSpec := { name := "fnExactFirstWonOfWinners", fn := fun _ => fun
  | [d1, d2, d3] => { results := [.lit (.bool true)], args := [d1, d2, d3] }
  | _ => none }
def fnExactFirstWonOfWinnersRow : OpenClaim := { program := "ytfimcadnlhohlaa", sum := "52654d0b5acc96e69b787c9688c4cd9d39b3aacd137b0af913c2434a506d74b9", func := "loop.example/g01218/laws.FnExactFirstWonOfWinners", spec := "fnExactFirstWonOfWinners", apart := false }
def FnExactFirstWonOfWinnersSaid : Prop := fnExactFirstWonOfWinnersRow.holds Try.pinned (OpenSpec.ofChange fnExactFirstWonOfWinnersSpec)

/-- ITS FALSE NEIGHBOUR: 'it returns false'. Refute it at one input. -/
def fnExactFirstWonOfWinnersWrong : ChangeSpec := { name := "fnExactFirstWonOfWinners", fn := fun _ => fun
  | [d1, d2, d3] => { results := [.lit (.bool false)], args := [d1, d2, d3] }
  | _ => none }
def FnExactFirstWonOfWinnersWrongFalsely : Prop := fnExactFirstWonOfWinnersRow.holds Try.pinned (OpenSpec.ofChange fnExactFirstWonOfWinnersWrong)

/-- 'laws.FnExactFairVisits': WHATEVER THE INPUT: true; the input reads as it did. -/
def fnExactFairVisitsSpec : ChangeSpec := { name := "fnExactFairVisits", fn := fun _ => fun
  | [d1, d2, d3] => { results := [.lit (.bool true)], args := [d1, d2, d3] }
  | _ => none }
def fnExactFairVisitsRow : OpenClaim := { program := "ytfimcadnlhohlaa", sum := "52654d0b5acc96e69b787c9688c4cd9d39b3aacd137b0af913c2434a506d74b9", func := "loop.example/g01218/laws.FnExactFairVisits", spec := "fnExactFairVisits", apart := false }
def FnExactFairVisitsSaid : Prop := fnExactFairVisitsRow.holds Try.pinned (OpenSpec.ofChange fnExactFairVisitsSpec)

/-- ITS FALSE NEIGHBOUR: 'it returns false'. Refute it at one input. -/
def fnExactFairVisitsWrong : ChangeSpec := { name := "fnExactFairVisits", fn := fun _ => fun
  | [d1, d2, d3] => { results := [.lit (.bool false)], args := [d1, d2, d3] }
  | _ => none }
def FnExactFairVisitsWrongFalsely : Prop := fnExactFairVisitsRow.holds Try.pinned (OpenSpec.ofChange fnExactFairVisitsWrong)

/-- 'laws.FnExactBoldChance': WHATEVER THE INPUT: true; the input reads as it did. -/
def fnExactBoldChanceSpec : ChangeSpec := { name := "fnExactBoldChance", fn := fun _ => fun
  | [d1, d2, d3] => { results := [.lit (.bool true)], args := [d1, d2, d3] }
  | _ => none }
def fnExactBoldChanceRow : OpenClaim := { program := "ytfimcadnlhohlaa", sum := "52654d0b5acc96e69b787c9688c4cd9d39b3aacd137b0af913c2434a506d74b9", func := "loop.example/g01218/laws.FnExactBoldChance", spec := "fnExactBoldChance", recurses := true, apart := false }
def FnExactBoldChanceSaid : Prop := fnExactBoldChanceRow.holds Try.pinned (OpenSpec.ofChange fnExactBoldChanceSpec)

/-- ITS FALSE NEIGHBOUR: 'it returns false'. Refute it at one input. -/
def fnExactBoldChanceWrong : ChangeSpec := { name := "fnExactBoldChance", fn := fun _ => fun
  | [d1, d2, d3] => { results := [.lit (.bool false)], args := [d1, d2, d3] }
  | _ => none }
def FnExactBoldChanceWrongFalsely : Prop := fnExactBoldChanceRow.holds Try.pinned (OpenSpec.ofChange fnExactBoldChanceWrong)

/-- 'laws.FnExactCountWins': WHATEVER THE INPUT: true; the input reads as it did. -/
def fnExactCountWinsSpec : ChangeSpec := { name := "fnExactCountWins", fn := fun _ => fun
  | [d1, d2, d3] => { results := [.lit (.bool true)], args := [d1, d2, d3] }
  | _ => none }
def fnExactCountWinsRow : OpenClaim := { program := "ytfimcadnlhohlaa", sum := "52654d0b5acc96e69b787c9688c4cd9d39b3aacd137b0af913c2434a506d74b9", func := "loop.example/g01218/laws.FnExactCountWins", spec := "fnExactCountWins", apart := false }
def FnExactCountWinsSaid : Prop := fnExactCountWinsRow.holds Try.pinned (OpenSpec.ofChange fnExactCountWinsSpec)

/-- ITS FALSE NEIGHBOUR: 'it returns false'. Refute it at one input. -/
def fnExactCountWinsWrong : ChangeSpec := { name := "fnExactCountWins", fn := fun _ => fun
  | [d1, d2, d3] => { results := [.lit (.bool false)], args := [d1, d2, d3] }
  | _ => none }
def FnExactCountWinsWrongFalsely : Prop := fnExactCountWinsRow.holds Try.pinned (OpenSpec.ofChange fnExactCountWinsWrong)

/-- 'laws.FnExactCompareChances': WHATEVER THE INPUT: true; the input reads as it did. -/
def fnExactCompareChancesSpec : ChangeSpec := { name := "fnExactCompareChances", fn := fun _ => fun
  | [d1, d2] => { results := [.lit (.bool true)], args := [d1, d2] }
  | _ => none }
def fnExactCompareChancesRow : OpenClaim := { program := "ytfimcadnlhohlaa", sum := "52654d0b5acc96e69b787c9688c4cd9d39b3aacd137b0af913c2434a506d74b9", func := "loop.example/g01218/laws.FnExactCompareChances", spec := "fnExactCompareChances", apart := false }
def FnExactCompareChancesSaid : Prop := fnExactCompareChancesRow.holds Try.pinned (OpenSpec.ofChange fnExactCompareChancesSpec)

/-- ITS FALSE NEIGHBOUR: 'it returns false'. Refute it at one input. -/
def fnExactCompareChancesWrong : ChangeSpec := { name := "fnExactCompareChances", fn := fun _ => fun
  | [d1, d2] => { results := [.lit (.bool false)], args := [d1, d2] }
  | _ => none }
def FnExactCompareChancesWrongFalsely : Prop := fnExactCompareChancesRow.holds Try.pinned (OpenSpec.ofChange fnExactCompareChancesWrong)

/- THE SECOND FORM. 'bulk': how many values and letters a reading holds, each counted each time it is reached (what is shared counts as often as it is met; a slice's spare places count too). A statement '..UptoSaid' is the law's where the arguments, and the package variables that the reading takes, are together of bulk at most 1048576: NARROWER than '..Said'. Prove '..Said' where nothing that the law and all that it calls make is longer than what came in: it says more and counts as full. Else prove '..UptoSaid'. A law counts once. -/
mutual
def uptoBulk {H : Type} : DataW H → Nat
  | .lit (.string bytes) => bytes.length + 1
  | .lit _ => 1
  | .nil => 1
  | .ptr d => uptoBulk d + 1
  | .slice elems spare => uptoBulkAll elems + uptoBulkAll spare + 1
  | .agg parts => uptoBulkAll parts + 1
  | .iface _ d => uptoBulk d + 1
  | .map entries => uptoBulkEntries entries + 1
  | .held _ => 1
def uptoBulkAll {H : Type} : List (DataW H) → Nat
  | [] => 0
  | d :: r => uptoBulk d + uptoBulkAll r
def uptoBulkEntries {H : Type} : List (Lit × DataW H) → Nat
  | [] => 0
  | x :: r => uptoBulkEntry x + uptoBulkEntries r
def uptoBulkEntry {H : Type} : Lit × DataW H → Nat
  | (.string bytes, d) => bytes.length + uptoBulk d + 1
  | (_, d) => uptoBulk d + 1
 end
def uptoSmall : (H : Type) → List (DataW H) → Bool := fun _ ds => decide (uptoBulkAll ds ≤ 1048576)
def OpenSpec.upto (s : _root_.Go.ChangeSpec) : _root_.Go.OpenSpec := { _root_.Go.OpenSpec.ofChange s with cond := some uptoSmall }

/-- 'laws.FnExactIsChance', WHERE WHAT IT READS IS OF BULK AT MOST 1048576: true; the input reads as it did. -/
def fnExactIsChanceUptoRow : OpenClaim := { program := "ytfimcadnlhohlaa", sum := "52654d0b5acc96e69b787c9688c4cd9d39b3aacd137b0af913c2434a506d74b9", func := "loop.example/g01218/laws.FnExactIsChance", spec := "fnExactIsChance", apart := false, narrowed := true }
def FnExactIsChanceUptoSaid : Prop := fnExactIsChanceUptoRow.holds Try.pinned (OpenSpec.upto fnExactIsChanceSpec)

/-- 'laws.FnExactWinChance', WHERE WHAT IT READS IS OF BULK AT MOST 1048576: true; the input reads as it did. -/
def fnExactWinChanceUptoRow : OpenClaim := { program := "ytfimcadnlhohlaa", sum := "52654d0b5acc96e69b787c9688c4cd9d39b3aacd137b0af913c2434a506d74b9", func := "loop.example/g01218/laws.FnExactWinChance", spec := "fnExactWinChance", apart := false, narrowed := true }
def FnExactWinChanceUptoSaid : Prop := fnExactWinChanceUptoRow.holds Try.pinned (OpenSpec.upto fnExactWinChanceSpec)

/-- 'laws.FnExactRuinChance', WHERE WHAT IT READS IS OF BULK AT MOST 1048576: true; the input reads as it did. -/
def fnExactRuinChanceUptoRow : OpenClaim := { program := "ytfimcadnlhohlaa", sum := "52654d0b5acc96e69b787c9688c4cd9d39b3aacd137b0af913c2434a506d74b9", func := "loop.example/g01218/laws.FnExactRuinChance", spec := "fnExactRuinChance", apart := false, narrowed := true }
def FnExactRuinChanceUptoSaid : Prop := fnExactRuinChanceUptoRow.holds Try.pinned (OpenSpec.upto fnExactRuinChanceSpec)

/-- 'laws.FnExactMeanGames', WHERE WHAT IT READS IS OF BULK AT MOST 1048576: true; the input reads as it did. -/
def fnExactMeanGamesUptoRow : OpenClaim := { program := "ytfimcadnlhohlaa", sum := "52654d0b5acc96e69b787c9688c4cd9d39b3aacd137b0af913c2434a506d74b9", func := "loop.example/g01218/laws.FnExactMeanGames", spec := "fnExactMeanGames", apart := false, narrowed := true }
def FnExactMeanGamesUptoSaid : Prop := fnExactMeanGamesUptoRow.holds Try.pinned (OpenSpec.upto fnExactMeanGamesSpec)

/-- 'laws.FnExactMeanHeld', WHERE WHAT IT READS IS OF BULK AT MOST 1048576: true; the input reads as it did. -/
def fnExactMeanHeldUptoRow : OpenClaim := { program := "ytfimcadnlhohlaa", sum := "52654d0b5acc96e69b787c9688c4cd9d39b3aacd137b0af913c2434a506d74b9", func := "loop.example/g01218/laws.FnExactMeanHeld", spec := "fnExactMeanHeld", apart := false, narrowed := true }
def FnExactMeanHeldUptoSaid : Prop := fnExactMeanHeldUptoRow.holds Try.pinned (OpenSpec.upto fnExactMeanHeldSpec)

/-- 'laws.FnExactEverRuined', WHERE WHAT IT READS IS OF BULK AT MOST 1048576: true; the input reads as it did. -/
def fnExactEverRuinedUptoRow : OpenClaim := { program := "ytfimcadnlhohlaa", sum := "52654d0b5acc96e69b787c9688c4cd9d39b3aacd137b0af913c2434a506d74b9", func := "loop.example/g01218/laws.FnExactEverRuined", spec := "fnExactEverRuined", apart := false, narrowed := true }
def FnExactEverRuinedUptoSaid : Prop := fnExactEverRuinedUptoRow.holds Try.pinned (OpenSpec.upto fnExactEverRuinedSpec)

/-- 'laws.FnExactWinWithin', WHERE WHAT IT READS IS OF BULK AT MOST 1048576: true; the input reads as it did. -/
def fnExactWinWithinUptoRow : OpenClaim := { program := "ytfimcadnlhohlaa", sum := "52654d0b5acc96e69b787c9688c4cd9d39b3aacd137b0af913c2434a506d74b9", func := "loop.example/g01218/laws.FnExactWinWithin", spec := "fnExactWinWithin", apart := false, narrowed := true }
def FnExactWinWithinUptoSaid : Prop := fnExactWinWithinUptoRow.holds Try.pinned (OpenSpec.upto fnExactWinWithinSpec)

/-- 'laws.FnExactRuinWithin', WHERE WHAT IT READS IS OF BULK AT MOST 1048576: true; the input reads as it did. -/
def fnExactRuinWithinUptoRow : OpenClaim := { program := "ytfimcadnlhohlaa", sum := "52654d0b5acc96e69b787c9688c4cd9d39b3aacd137b0af913c2434a506d74b9", func := "loop.example/g01218/laws.FnExactRuinWithin", spec := "fnExactRuinWithin", apart := false, narrowed := true }
def FnExactRuinWithinUptoSaid : Prop := fnExactRuinWithinUptoRow.holds Try.pinned (OpenSpec.upto fnExactRuinWithinSpec)

/-- 'laws.FnExactStillPlaying', WHERE WHAT IT READS IS OF BULK AT MOST 1048576: true; the input reads as it did. -/
def fnExactStillPlayingUptoRow : OpenClaim := { program := "ytfimcadnlhohlaa", sum := "52654d0b5acc96e69b787c9688c4cd9d39b3aacd137b0af913c2434a506d74b9", func := "loop.example/g01218/laws.FnExactStillPlaying", spec := "fnExactStillPlaying", apart := false, narrowed := true }
def FnExactStillPlayingUptoSaid : Prop := fnExactStillPlayingUptoRow.holds Try.pinned (OpenSpec.upto fnExactStillPlayingSpec)

/-- 'laws.FnExactHeldAfter', WHERE WHAT IT READS IS OF BULK AT MOST 1048576: true; the input reads as it did. -/
def fnExactHeldAfterUptoRow : OpenClaim := { program := "ytfimcadnlhohlaa", sum := "52654d0b5acc96e69b787c9688c4cd9d39b3aacd137b0af913c2434a506d74b9", func := "loop.example/g01218/laws.FnExactHeldAfter", spec := "fnExactHeldAfter", apart := false, narrowed := true }
def FnExactHeldAfterUptoSaid : Prop := fnExactHeldAfterUptoRow.holds Try.pinned (OpenSpec.upto fnExactHeldAfterSpec)

/-- 'laws.FnExactFirstWonOfWinners', WHERE WHAT IT READS IS OF BULK AT MOST 1048576: true; the input reads as it did. -/
def fnExactFirstWonOfWinnersUptoRow : OpenClaim := { program := "ytfimcadnlhohlaa", sum := "52654d0b5acc96e69b787c9688c4cd9d39b3aacd137b0af913c2434a506d74b9", func := "loop.example/g01218/laws.FnExactFirstWonOfWinners", spec := "fnExactFirstWonOfWinners", apart := false, narrowed := true }
def FnExactFirstWonOfWinnersUptoSaid : Prop := fnExactFirstWonOfWinnersUptoRow.holds Try.pinned (OpenSpec.upto fnExactFirstWonOfWinnersSpec)

/-- 'laws.FnExactFairVisits', WHERE WHAT IT READS IS OF BULK AT MOST 1048576: true; the input reads as it did. -/
def fnExactFairVisitsUptoRow : OpenClaim := { program := "ytfimcadnlhohlaa", sum := "52654d0b5acc96e69b787c9688c4cd9d39b3aacd137b0af913c2434a506d74b9", func := "loop.example/g01218/laws.FnExactFairVisits", spec := "fnExactFairVisits", apart := false, narrowed := true }
def FnExactFairVisitsUptoSaid : Prop := fnExactFairVisitsUptoRow.holds Try.pinned (OpenSpec.upto fnExactFairVisitsSpec)

/-- 'laws.FnExactBoldChance', WHERE WHAT IT READS IS OF BULK AT MOST 1048576: true; the input reads as it did. -/
def fnExactBoldChanceUptoRow : OpenClaim := { program := "ytfimcadnlhohlaa", sum := "52654d0b5acc96e69b787c9688c4cd9d39b3aacd137b0af913c2434a506d74b9", func := "loop.example/g01218/laws.FnExactBoldChance", spec := "fnExactBoldChance", recurses := true, apart := false, narrowed := true }
def FnExactBoldChanceUptoSaid : Prop := fnExactBoldChanceUptoRow.holds Try.pinned (OpenSpec.upto fnExactBoldChanceSpec)

/-- 'laws.FnExactCountWins', WHERE WHAT IT READS IS OF BULK AT MOST 1048576: true; the input reads as it did. -/
def fnExactCountWinsUptoRow : OpenClaim := { program := "ytfimcadnlhohlaa", sum := "52654d0b5acc96e69b787c9688c4cd9d39b3aacd137b0af913c2434a506d74b9", func := "loop.example/g01218/laws.FnExactCountWins", spec := "fnExactCountWins", apart := false, narrowed := true }
def FnExactCountWinsUptoSaid : Prop := fnExactCountWinsUptoRow.holds Try.pinned (OpenSpec.upto fnExactCountWinsSpec)

/-- 'laws.FnExactCompareChances', WHERE WHAT IT READS IS OF BULK AT MOST 1048576: true; the input reads as it did. -/
def fnExactCompareChancesUptoRow : OpenClaim := { program := "ytfimcadnlhohlaa", sum := "52654d0b5acc96e69b787c9688c4cd9d39b3aacd137b0af913c2434a506d74b9", func := "loop.example/g01218/laws.FnExactCompareChances", spec := "fnExactCompareChances", apart := false, narrowed := true }
def FnExactCompareChancesUptoSaid : Prop := fnExactCompareChancesUptoRow.holds Try.pinned (OpenSpec.upto fnExactCompareChancesSpec)

end Rows
end Go.Proofs.Ytfimcadnlhohlaa
