/-
  DERIVED. GIVEN WITH THE SEED: THE CARDS: each row of YtmfcknlpbliehaaDoorRows.lean that lists a variable, with what it lists TIED to the program's text (the seventh form; the later family's looks); each row that meets fmt, with fmt's text TOLD by the authors' own Lean function (tested against real Go, not proved from fmt's source: count such statements apart). THE CARD IS WHAT COUNTS. Prove the row's statement (the work); the ties are given (YtmfcknlpbliehaaDoorTie.lean); close each card by the builder's one call (the guide's Derived/Test/ToyasCard.lean, 'card_holds'). Laid BY PROGRAM, IN A SANDBOX (cutbox-door.mjs). By AI agents, Wed Nov 11 2026. No macro, syntax, notation, axiom, sorry.
-/
import Derived.Test.YtmfcknlpbliehaaDoorRows
import GoSem.ClaimSeven
namespace Go.Proofs.YtmfcknlpbliehaaDoor
namespace Rows

/-- THE TIED CARD OF 'laws.FnExactRankOrdered'. -/
def fnExactRankOrderedCard : Claim7 := { stood := { row := fnExactRankOrderedRow, standIns := [], harness := (true, "d7d111f9c1c2ca9cc90123ab4cccbe674272aa9131cbf4a064383f1938bb80be"), looks := true }, kinds := [], alts := [], laidByText := true, laidKinds := [.data, .pinned], laidTests := true, laidLooks := .later }
def FnExactRankOrderedCardSaid : Prop := Claim7.holds Tryd.pinned (.plain (OpenSpec.ofChange fnExactRankOrderedSpec)) fnExactRankOrderedCard

/-- THE TIED CARD OF 'laws.FnExactVotesOfTable'. -/
def fnExactVotesOfTableCard : Claim7 := { stood := { row := fnExactVotesOfTableRow, standIns := [], harness := (true, "d7d111f9c1c2ca9cc90123ab4cccbe674272aa9131cbf4a064383f1938bb80be"), looks := true }, kinds := [], alts := [], laidByText := true, laidKinds := [.data, .pinned], laidTests := true, laidLooks := .later }
def FnExactVotesOfTableCardSaid : Prop := Claim7.holds Tryd.pinned (.plain (OpenSpec.ofChange fnExactVotesOfTableSpec)) fnExactVotesOfTableCard

/-- THE SECOND FORM's CARD OF 'laws.FnExactRankOrdered'. -/
def fnExactRankOrderedUptoCard : Claim7 := { stood := { row := fnExactRankOrderedUptoRow, standIns := [], harness := (true, "d7d111f9c1c2ca9cc90123ab4cccbe674272aa9131cbf4a064383f1938bb80be"), looks := true }, kinds := [], alts := [], laidByText := true, laidKinds := [.data, .pinned], laidTests := true, laidLooks := .later }
def FnExactRankOrderedUptoCardSaid : Prop := Claim7.holds Tryd.pinned (.plain (OpenSpec.upto fnExactRankOrderedSpec)) fnExactRankOrderedUptoCard

/-- THE SECOND FORM's CARD OF 'laws.FnExactVotesOfTable'. -/
def fnExactVotesOfTableUptoCard : Claim7 := { stood := { row := fnExactVotesOfTableUptoRow, standIns := [], harness := (true, "d7d111f9c1c2ca9cc90123ab4cccbe674272aa9131cbf4a064383f1938bb80be"), looks := true }, kinds := [], alts := [], laidByText := true, laidKinds := [.data, .pinned], laidTests := true, laidLooks := .later }
def FnExactVotesOfTableUptoCardSaid : Prop := Claim7.holds Tryd.pinned (.plain (OpenSpec.upto fnExactVotesOfTableSpec)) fnExactVotesOfTableUptoCard
end Rows
end Go.Proofs.YtmfcknlpbliehaaDoor
