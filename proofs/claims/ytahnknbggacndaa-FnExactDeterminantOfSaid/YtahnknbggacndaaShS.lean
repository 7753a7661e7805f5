/- The model's ShiftMoments. -/
import Derived.Test.YtahnknbggacndaaShMath
import Derived.Test.YtahnknbggacndaaDeg
import Derived.Test.YtahnknbggacndaaChoose
import Derived.Deep.RegionHeld3
import Derived.IntWalk
namespace Go.Proofs.Ytahnknbggacndaa
open Go.RowKit
set_option linter.unusedVariables false
/-- what is kept while the sum for one n is made -/
structure ShAt (w0 : World) (B g o i : Nat) (m : Int) (A : Option Addr) (c : Nat) (L : List Int) (W : World) : Prop where
  cell : W.cell? ⟨g, o + i, none⟩ = some (.int .i64 m)
  lt : g < w0.heap.size
  row : IRow W B (.slice A L.length c) L
  below : Below w0.heap.size w0 W
theorem ShAt.kept {w0 W W' : World} {B g o i : Nat} {m : Int} {A : Option Addr} {c : Nat} {L : List Int} (h : ShAt w0 B g o i m A c L W) (hb : Below W.heap.size W W') : ShAt w0 B g o i m A c L W' :=
  ⟨(hb.cell (p := ⟨g, o + i, none⟩) (Nat.lt_of_lt_of_le h.lt h.below.size)).trans h.cell, h.lt, h.row.below hb, h.below.trans (hb.mono h.below.size)⟩
theorem ShAt.drew {w0 W : World} {B g o i : Nat} {m : Int} {A : Option Addr} {c : Nat} {L : List Int} (h : ShAt w0 B g o i m A c L W) : ShAt w0 B g o i m A c L W.drew := ⟨h.cell, h.lt, h.row, below_drewN h.below 1⟩
theorem shKept {w0 W W' : World} {B g o i : Nat} {m : Int} {A : Option Addr} {c : Nat} {L : List Int} (h : W.cell? ⟨g, o + i, none⟩ = some (.int .i64 m) ∧ ShAt w0 B g o i m A c L W) (hb : Below W.heap.size W W') : W'.cell? ⟨g, o + i, none⟩ = some (.int .i64 m) ∧ ShAt w0 B g o i m A c L W' := ⟨(h.2.kept hb).cell, h.2.kept hb⟩
theorem shRow {w0 W : World} {B g o i : Nat} {m : Int} {A : Option Addr} {c : Nat} {L : List Int} (h : W.cell? ⟨g, o + i, none⟩ = some (.int .i64 m) ∧ ShAt w0 B g o i m A c L W) : IRow W B (.slice A L.length c) L := h.2.row
theorem shBel {w0 W : World} {B g o i : Nat} {m : Int} {A : Option Addr} {c : Nat} {L : List Int} (h : W.cell? ⟨g, o + i, none⟩ = some (.int .i64 m) ∧ ShAt w0 B g o i m A c L W) : Below w0.heap.size w0 W := h.2.below
end Go.Proofs.Ytahnknbggacndaa
