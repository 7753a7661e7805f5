/-
  No cell of these rows narrows 'for every input' (looked for: loops, veiled, ifaces, maps, wideKeys, modest, calm, conditions, laid).
  DERIVED. THE GIVEN ROWS OF THIS SEAT. 6 by the template 'for every input the law returns true; each argument reads behind the call as it read before'; 0 by the template 'total and deterministic' (their statements: YtachijliaedndaaTotals.lean).
  GIVEN WITH THE SEED: the statements are not yours to turn. If you find one false, say at which input.
  Laid BY PROGRAM, IN A SANDBOX (cutbox-rows.mjs): the forced cells as the released guide's own fill.sh prints them over the translation 8501b06faab3cf09… (all of the seat's roots in one cut). By AI agents, Wed Nov 11 2026. No macro, syntax, notation, axiom, sorry.
-/
import Derived.Test.YtachijliaedndaaChecked
import GoSem.Claim
import GoSem.ClaimJoined
import GoSem.ClaimMapViews
import Derived.JoinedTies
import Derived.KernelRfl
namespace Go.Proofs.Ytachijliaedndaa
/- THE CELL 'sum', in the pinned program and in every row, IS THE sha256 OF THE DUMP (.gsa) THAT YtachijliaedndaaProg.lean LOADS. Nothing in Lean hashes anything: it is a label: what it is worth is what the hold of that sum in a sandbox is worth. -/
noncomputable def Try.pinned : Pinned := { name := "ytachijliaedndaa", sum := "8501b06faab3cf09ce164c9a763268da7cc7c51e8a47b4a1175c145261665524", checked := Try.checked }
namespace Rows
def none {H : Type} : Left H := { results := [], args := [] }

/-- 'laws.FnPathsReflected': WHATEVER THE INPUT: true; the input reads as it did. -/
def fnPathsReflectedSpec : ChangeSpec := { name := "fnPathsReflected", fn := fun _ => fun
  | [d1, d2] => { results := [.lit (.bool true)], args := [d1, d2] }
  | _ => none }
def fnPathsReflectedRow : OpenClaim := { program := "ytachijliaedndaa", sum := "8501b06faab3cf09ce164c9a763268da7cc7c51e8a47b4a1175c145261665524", func := "loop.example/g01218/laws.FnPathsReflected", spec := "fnPathsReflected", unfollowed := true, recurses := true, plainKeys := false, apart := false }
def FnPathsReflectedSaid : Prop := fnPathsReflectedRow.holds Try.pinned (OpenSpec.ofChange fnPathsReflectedSpec)

/-- ITS FALSE NEIGHBOUR: 'it returns false'. Refute it at one input. -/
def fnPathsReflectedWrong : ChangeSpec := { name := "fnPathsReflected", fn := fun _ => fun
  | [d1, d2] => { results := [.lit (.bool false)], args := [d1, d2] }
  | _ => none }
def FnPathsReflectedWrongFalsely : Prop := fnPathsReflectedRow.holds Try.pinned (OpenSpec.ofChange fnPathsReflectedWrong)

/-- 'laws.FnRuinAddsUp': WHATEVER THE INPUT: true; the input reads as it did. -/
def fnRuinAddsUpSpec : ChangeSpec := { name := "fnRuinAddsUp", fn := fun _ => fun
  | [d1, d2] => { results := [.lit (.bool true)], args := [d1, d2] }
  | _ => none }
def fnRuinAddsUpRow : OpenClaim := { program := "ytachijliaedndaa", sum := "8501b06faab3cf09ce164c9a763268da7cc7c51e8a47b4a1175c145261665524", func := "loop.example/g01218/laws.FnRuinAddsUp", spec := "fnRuinAddsUp", plainKeys := false, apart := false }
def FnRuinAddsUpSaid : Prop := fnRuinAddsUpRow.holds Try.pinned (OpenSpec.ofChange fnRuinAddsUpSpec)

/-- ITS FALSE NEIGHBOUR: 'it returns false'. Refute it at one input. -/
def fnRuinAddsUpWrong : ChangeSpec := { name := "fnRuinAddsUp", fn := fun _ => fun
  | [d1, d2] => { results := [.lit (.bool false)], args := [d1, d2] }
  | _ => none }
def FnRuinAddsUpWrongFalsely : Prop := fnRuinAddsUpRow.holds Try.pinned (OpenSpec.ofChange fnRuinAddsUpWrong)

/-- 'laws.FnRecordsTold': WHATEVER THE INPUT: true; the input reads as it did. -/
def fnRecordsToldSpec : ChangeSpec := { name := "fnRecordsTold", fn := fun _ => fun
  | [d1, d2] => { results := [.lit (.bool true)], args := [d1, d2] }
  | _ => none }
def fnRecordsToldRow : OpenClaim := { program := "ytachijliaedndaa", sum := "8501b06faab3cf09ce164c9a763268da7cc7c51e8a47b4a1175c145261665524", func := "loop.example/g01218/laws.FnRecordsTold", spec := "fnRecordsTold", unfollowed := true, recurses := true, plainKeys := false, apart := false }
def FnRecordsToldSaid : Prop := fnRecordsToldRow.holds Try.pinned (OpenSpec.ofChange fnRecordsToldSpec)

/-- ITS FALSE NEIGHBOUR: 'it returns false'. Refute it at one input. -/
def fnRecordsToldWrong : ChangeSpec := { name := "fnRecordsTold", fn := fun _ => fun
  | [d1, d2] => { results := [.lit (.bool false)], args := [d1, d2] }
  | _ => none }
def FnRecordsToldWrongFalsely : Prop := fnRecordsToldRow.holds Try.pinned (OpenSpec.ofChange fnRecordsToldWrong)

/-- 'laws.FnTouchesCounted': WHATEVER THE INPUT: true; the input reads as it did. -/
def fnTouchesCountedSpec : ChangeSpec := { name := "fnTouchesCounted", fn := fun _ => fun
  | [d1, d2] => { results := [.lit (.bool true)], args := [d1, d2] }
  | _ => none }
def fnTouchesCountedRow : OpenClaim := { program := "ytachijliaedndaa", sum := "8501b06faab3cf09ce164c9a763268da7cc7c51e8a47b4a1175c145261665524", func := "loop.example/g01218/laws.FnTouchesCounted", spec := "fnTouchesCounted", recurses := true, plainKeys := false, apart := false }
def FnTouchesCountedSaid : Prop := fnTouchesCountedRow.holds Try.pinned (OpenSpec.ofChange fnTouchesCountedSpec)

/-- ITS FALSE NEIGHBOUR: 'it returns false'. Refute it at one input. -/
def fnTouchesCountedWrong : ChangeSpec := { name := "fnTouchesCounted", fn := fun _ => fun
  | [d1, d2] => { results := [.lit (.bool false)], args := [d1, d2] }
  | _ => none }
def FnTouchesCountedWrongFalsely : Prop := fnTouchesCountedRow.holds Try.pinned (OpenSpec.ofChange fnTouchesCountedWrong)

/-- 'laws.FnVotesFollowed': WHATEVER THE INPUT: true; the input reads as it did. -/
def fnVotesFollowedSpec : ChangeSpec := { name := "fnVotesFollowed", fn := fun _ => fun
  | [d1, d2] => { results := [.lit (.bool true)], args := [d1, d2] }
  | _ => none }
def fnVotesFollowedRow : OpenClaim := { program := "ytachijliaedndaa", sum := "8501b06faab3cf09ce164c9a763268da7cc7c51e8a47b4a1175c145261665524", func := "loop.example/g01218/laws.FnVotesFollowed", spec := "fnVotesFollowed", inPlace := ["internal/bytealg.CountString", "internal/bytealg.IndexByteString", "internal/bytealg.IndexString"], recurses := true, named := ["internal/bytealg.MaxLen"], plainKeys := false, apart := false }
def FnVotesFollowedSaid : Prop := fnVotesFollowedRow.holds Try.pinned (OpenSpec.ofChange fnVotesFollowedSpec)

/-- ITS FALSE NEIGHBOUR: 'it returns false'. Refute it at one input. -/
def fnVotesFollowedWrong : ChangeSpec := { name := "fnVotesFollowed", fn := fun _ => fun
  | [d1, d2] => { results := [.lit (.bool false)], args := [d1, d2] }
  | _ => none }
def FnVotesFollowedWrongFalsely : Prop := fnVotesFollowedRow.holds Try.pinned (OpenSpec.ofChange fnVotesFollowedWrong)

/-- 'laws.FnRuinInTime': WHATEVER THE INPUT: true; the input reads as it did. -/
def fnRuinInTimeSpec : ChangeSpec := { name := "fnRuinInTime", fn := fun _ => fun
  | [d1, d2] => { results := [.lit (.bool true)], args := [d1, d2] }
  | _ => none }
def fnRuinInTimeRow : OpenClaim := { program := "ytachijliaedndaa", sum := "8501b06faab3cf09ce164c9a763268da7cc7c51e8a47b4a1175c145261665524", func := "loop.example/g01218/laws.FnRuinInTime", spec := "fnRuinInTime", plainKeys := false, apart := false }
def FnRuinInTimeSaid : Prop := fnRuinInTimeRow.holds Try.pinned (OpenSpec.ofChange fnRuinInTimeSpec)

/-- ITS FALSE NEIGHBOUR: 'it returns false'. Refute it at one input. -/
def fnRuinInTimeWrong : ChangeSpec := { name := "fnRuinInTime", fn := fun _ => fun
  | [d1, d2] => { results := [.lit (.bool false)], args := [d1, d2] }
  | _ => none }
def FnRuinInTimeWrongFalsely : Prop := fnRuinInTimeRow.holds Try.pinned (OpenSpec.ofChange fnRuinInTimeWrong)

/- THE SECOND FORM. 'bulk': how many values and letters a reading holds, each counted each time it is reached (what is shared counts as often as it is met; a slice's spare places count too). A statement '..UptoSaid' is the law's where the arguments, and the package variables that the reading takes, are together of bulk at most 1048576: NARROWER than '..Said'. Prove '..Said' where nothing that the law and all that it calls make is longer than what came in: it says more and counts as full. Else prove '..UptoSaid'. A law counts once. -/
mutual
def uptoBulk {H : Type} : DataW H → Nat
  | .lit (.string bytes) => bytes.length + 1
  | .lit _ => 1
  | .nil => 1
  | .ptr d => uptoBulk d + 1
  | .slice elems spare => uptoBulkAll elems + uptoBulkAll spare + 1
  | .agg parts => uptoBulkAll parts + 1
  | .iface _ d => uptoBulk d + 1
  | .map entries => uptoBulkEntries entries + 1
  | .held _ => 1
def uptoBulkAll {H : Type} : List (DataW H) → Nat
  | [] => 0
  | d :: r => uptoBulk d + uptoBulkAll r
def uptoBulkEntries {H : Type} : List (Lit × DataW H) → Nat
  | [] => 0
  | x :: r => uptoBulkEntry x + uptoBulkEntries r
def uptoBulkEntry {H : Type} : Lit × DataW H → Nat
  | (.string bytes, d) => bytes.length + uptoBulk d + 1
  | (_, d) => uptoBulk d + 1
 end
def uptoSmall : (H : Type) → List (DataW H) → Bool := fun _ ds => decide (uptoBulkAll ds ≤ 1048576)
def OpenSpec.upto (s : _root_.Go.ChangeSpec) : _root_.Go.OpenSpec := { _root_.Go.OpenSpec.ofChange s with cond := some uptoSmall }

/-- 'laws.FnPathsReflected', WHERE WHAT IT READS IS OF BULK AT MOST 1048576: true; the input reads as it did. -/
def fnPathsReflectedUptoRow : OpenClaim := { program := "ytachijliaedndaa", sum := "8501b06faab3cf09ce164c9a763268da7cc7c51e8a47b4a1175c145261665524", func := "loop.example/g01218/laws.FnPathsReflected", spec := "fnPathsReflected", unfollowed := true, recurses := true, plainKeys := false, apart := false, narrowed := true }
def FnPathsReflectedUptoSaid : Prop := fnPathsReflectedUptoRow.holds Try.pinned (OpenSpec.upto fnPathsReflectedSpec)

/-- 'laws.FnRuinAddsUp', WHERE WHAT IT READS IS OF BULK AT MOST 1048576: true; the input reads as it did. -/
def fnRuinAddsUpUptoRow : OpenClaim := { program := "ytachijliaedndaa", sum := "8501b06faab3cf09ce164c9a763268da7cc7c51e8a47b4a1175c145261665524", func := "loop.example/g01218/laws.FnRuinAddsUp", spec := "fnRuinAddsUp", plainKeys := false, apart := false, narrowed := true }
def FnRuinAddsUpUptoSaid : Prop := fnRuinAddsUpUptoRow.holds Try.pinned (OpenSpec.upto fnRuinAddsUpSpec)

/-- 'laws.FnRecordsTold', WHERE WHAT IT READS IS OF BULK AT MOST 1048576: true; the input reads as it did. -/
def fnRecordsToldUptoRow : OpenClaim := { program := "ytachijliaedndaa", sum := "8501b06faab3cf09ce164c9a763268da7cc7c51e8a47b4a1175c145261665524", func := "loop.example/g01218/laws.FnRecordsTold", spec := "fnRecordsTold", unfollowed := true, recurses := true, plainKeys := false, apart := false, narrowed := true }
def FnRecordsToldUptoSaid : Prop := fnRecordsToldUptoRow.holds Try.pinned (OpenSpec.upto fnRecordsToldSpec)

/-- 'laws.FnTouchesCounted', WHERE WHAT IT READS IS OF BULK AT MOST 1048576: true; the input reads as it did. -/
def fnTouchesCountedUptoRow : OpenClaim := { program := "ytachijliaedndaa", sum := "8501b06faab3cf09ce164c9a763268da7cc7c51e8a47b4a1175c145261665524", func := "loop.example/g01218/laws.FnTouchesCounted", spec := "fnTouchesCounted", recurses := true, plainKeys := false, apart := false, narrowed := true }
def FnTouchesCountedUptoSaid : Prop := fnTouchesCountedUptoRow.holds Try.pinned (OpenSpec.upto fnTouchesCountedSpec)

/-- 'laws.FnVotesFollowed', WHERE WHAT IT READS IS OF BULK AT MOST 1048576: true; the input reads as it did. -/
def fnVotesFollowedUptoRow : OpenClaim := { program := "ytachijliaedndaa", sum := "8501b06faab3cf09ce164c9a763268da7cc7c51e8a47b4a1175c145261665524", func := "loop.example/g01218/laws.FnVotesFollowed", spec := "fnVotesFollowed", inPlace := ["internal/bytealg.CountString", "internal/bytealg.IndexByteString", "internal/bytealg.IndexString"], recurses := true, named := ["internal/bytealg.MaxLen"], plainKeys := false, apart := false, narrowed := true }
def FnVotesFollowedUptoSaid : Prop := fnVotesFollowedUptoRow.holds Try.pinned (OpenSpec.upto fnVotesFollowedSpec)

/-- 'laws.FnRuinInTime', WHERE WHAT IT READS IS OF BULK AT MOST 1048576: true; the input reads as it did. -/
def fnRuinInTimeUptoRow : OpenClaim := { program := "ytachijliaedndaa", sum := "8501b06faab3cf09ce164c9a763268da7cc7c51e8a47b4a1175c145261665524", func := "loop.example/g01218/laws.FnRuinInTime", spec := "fnRuinInTime", plainKeys := false, apart := false, narrowed := true }
def FnRuinInTimeUptoSaid : Prop := fnRuinInTimeUptoRow.holds Try.pinned (OpenSpec.upto fnRuinInTimeSpec)

end Rows
end Go.Proofs.Ytachijliaedndaa
