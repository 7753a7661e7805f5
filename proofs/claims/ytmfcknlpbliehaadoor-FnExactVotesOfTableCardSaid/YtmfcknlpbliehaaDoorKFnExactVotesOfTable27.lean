/- Pack 27 of what FnExactVotesOfTable needs: StA, TrmD. -/
import Derived.Test.YtmfcknlpbliehaaDoorKFnExactVotesOfTable26
import Derived.Defers
import Derived.Recover
import Derived.RegionTactic
import Derived.Deep.QuietTactic
import Derived.Shelf.Strings.SlTrimAscii
import Derived.Shelf.Strings.Search1
import Derived.Shelf.Slices.Equal
import Derived.Test.YtmfcknlpbliehaaDoorProg
/- Standings: overtakes, with; a box of four numbers. -/
namespace Go.Proofs.YtmfcknlpbliehaaDoor
open Go.RowKit
set_option linter.unusedVariables false
def stA (p : Nat → Nat) : Value := .agg #[.int .i64 ((p 0 : Nat) : Int), .int .i64 ((p 1 : Nat) : Int), .int .i64 ((p 2 : Nat) : Int), .int .i64 ((p 3 : Nat) : Int)]
def ovB (p : Nat → Nat) (c : Nat) : Bool := decide (0 < c) && decide (p c = p (c - 1))
set_option maxHeartbeats 800000 in
theorem overtakes_any (p : Nat → Nat) (c : Nat) (hc : c < 4) (w : World) : Calls Tryd.prog 42 #[stA p, .int .i64 (c : Int)] w (Ret w (.bool (ovB p c))) := by
  unfold stA
  have HB : ∀ q : Nat, Hid ((((p (q + 1) : Nat) : Int) == ((p q : Nat) : Int)) = ovB p (q + 1)) := fun q => Lib.hid (by
    unfold ovB
    rw [decide_eq_true (by omega), Bool.true_and, Bool.eq_iff_iff, beq_iff_eq, decide_eq_true_iff, Nat.add_sub_cancel]
    omega)
  have HB0 : Hid (ovB p 0 = false) := Lib.hid rfl
  have HB1 := HB 0
  have HB2 := HB 1
  have HB3 := HB 2
  simp only [Nat.zero_add, Nat.reduceAdd] at HB1 HB2 HB3
  clear HB
  have hc4 : c = 0 ∨ c = 1 ∨ c = 2 ∨ c = 3 := by omega
  rcases hc4 with rfl | rfl | rfl | rfl
  · generalize ovB p 0 = b0 at *
    go_enter Tryd.func42, Tryd.ntmps42
    go_wp2
    go_quiet (fail)
    go_wp2
    go_ret
    exact ⟨ret_bool HB0.out.symm, below_drewN ((Below.refl _ _).alloc (Nat.le_refl _) _) _⟩
  · generalize ovB p 1 = b1 at *
    go_enter Tryd.func42, Tryd.ntmps42
    go_wp2
    go_region
    go_wp2
    go_ret
    exact ⟨ret_bool HB1.out, below_drewN ((Below.refl _ _).alloc (Nat.le_refl _) _) 1⟩
  · generalize ovB p 2 = b1 at *
    go_enter Tryd.func42, Tryd.ntmps42
    go_wp2
    go_region
    go_wp2
    go_ret
    exact ⟨ret_bool HB2.out, below_drewN ((Below.refl _ _).alloc (Nat.le_refl _) _) 1⟩
  · generalize ovB p 3 = b1 at *
    go_enter Tryd.func42, Tryd.ntmps42
    go_wp2
    go_region
    go_wp2
    go_ret
    exact ⟨ret_bool HB3.out, below_drewN ((Below.refl _ _).alloc (Nat.le_refl _) _) 1⟩
/-- a box of four numbers -/
structure B4 (b : Nat) (p : Nat → Nat) (W : World) : Prop where
  cell : ∀ j, j < 4 → W.cell? ⟨b, j, none⟩ = some (.int .i64 ((p j : Nat) : Int))
  free : ∀ j, j < 4 → W.frozen? ⟨b, j, none⟩ = false
  lt : b < W.heap.size
theorem B4.below {b : Nat} {p : Nat → Nat} {W W' : World} (h : B4 b p W) (hb : Below W.heap.size W W') : B4 b p W' :=
  ⟨fun j hj => (hb.cell (p := ⟨b, j, none⟩) h.lt).trans (h.cell j hj), fun j hj => by
    have := hb.block b h.lt
    have e : W'.frozen? ⟨b, j, none⟩ = W.frozen? ⟨b, j, none⟩ := by unfold World.frozen?; rw [this]
    rw [e]; exact h.free j hj, Nat.lt_of_lt_of_le h.lt hb.size⟩
theorem B4.set {b : Nat} {p : Nat → Nat} {W : World} (h : B4 b p W) (c : Nat) (hc : c < 4) : B4 b (up p c) (W.setCell ⟨b, c, none⟩ (.int .i64 (((p c : Nat) : Int) + 1))) := by
  refine ⟨fun j hj => ?_, fun j hj => ?_, ?_⟩
  · by_cases e : j = c
    · subst e
      rw [World.cell?_setCell_same W ⟨b, j, none⟩ _ (h.cell j hj), up_at]
      rfl
    · rw [World.cell?_setCell_other W ⟨b, c, none⟩ ⟨b, j, none⟩ _ (fun x => e (by injection x with _ x; exact x.symm)), up_ne p e]
      exact h.cell j hj
  · rw [World.frozen?_setCell]; exact h.free j hj
  · simp [World.setCell]; exact h.lt
theorem B4.ints {b : Nat} {p : Nat → Nat} {W : World} (h : B4 b p W) : RInts W (.slice (some ⟨b, 0, none⟩) 4 4) [((p 0 : Nat) : Int), ((p 1 : Nat) : Int), ((p 2 : Nat) : Int), ((p 3 : Nat) : Int)] := by
  refine ⟨⟨_, _, rfl⟩, fun A n c e => by injection e with e1 e2 e3; subst e2 e3; exact ⟨Nat.le_refl _, by simp [maxLen]⟩, fun _ => ⟨b, 0, 4, rfl, h.lt, fun j hj => ?_⟩⟩
  rw [Nat.zero_add, h.cell j hj]
  have : j = 0 ∨ j = 1 ∨ j = 2 ∨ j = 3 := by simp at hj; omega
  rcases this with e | e | e | e <;> subst e <;> rfl
theorem B4.new {p : Nat → Nat} (w : World) (T : TypeId) : B4 w.heap.size p (w.alloc (.cells #[.int .i64 ((p 0 : Nat) : Int), .int .i64 ((p 1 : Nat) : Int), .int .i64 ((p 2 : Nat) : Int), .int .i64 ((p 3 : Nat) : Int)] T)) := by
  refine ⟨fun j hj => ?_, fun j hj => ?_, by simp⟩
  · have : j = 0 ∨ j = 1 ∨ j = 2 ∨ j = 3 := by omega
    rcases this with e | e | e | e <;> subst e <;> simp [go_sem]
  · have : j = 0 ∨ j = 1 ∨ j = 2 ∨ j = 3 := by omega
    rcases this with e | e | e | e <;> subst e <;> simp [go_sem]
set_option maxHeartbeats 800000 in
theorem with_any (p : Nat → Nat) (c : Nat) (hc : c < 4) (hp : p c ≤ 16) (w : World) : Calls Tryd.prog 36 #[stA p, .int .i64 (c : Int)] w (Ret w (stA (up p c))) := by
  unfold stA
  have hc4 : c = 0 ∨ c = 1 ∨ c = 2 ∨ c = 3 := by omega
  rcases hc4 with rfl | rfl | rfl | rfl
  all_goals
    go_enter Tryd.func36, Tryd.ntmps36
    go_wp2
    refine bodyPost_ret (v := stA (up p _)) (by simp [results, Tryd.results36, go_sem, up, stA]) rfl ⟨rfl, ?_⟩
    exact ((Below.refl _ _).alloc (Nat.le_refl _) _).alloc (by simp) _
end Go.Proofs.YtmfcknlpbliehaaDoor

/- strings.Trim, strings.IndexByte (and slices.Equal) of this program (laid off the library's shelf in plain words). The numbers are those of the seat YtmfcknlpbliehaaDoor. -/
namespace Go.Proofs
open Go.Shelf
def Tryd.lays160_ren : Go.Shelf.Ren := ⟨fun | 160 => 38 | 232 => 45 | 231 => 44 | 227 => 46 | 234 => 48 | 233 => 47 | 236 => 50 | 235 => 49 | 228 => 53 | 271 => 56 | 151 => 55 | 197 => 54 | 120 => 60 | 152 => 59 | 260 => 58 | 137 => 41 | 119 => 61 | 224 => 62 | 225 => 63 | 217 => 52 | 266 => 57 | n => n, fun | 9 => 9 | 4 => 4 | 3 => 3 | 5 => 5 | 117 => 70 | 116 => 69 | 0 => 0 | 124 => 73 | 21 => 21 | 105 => 77 | 46 => 82 | 119 => 81 | 139 => 85 | 138 => 84 | n => n, fun | 3 => 1 | 4 => 2 | n => n⟩
theorem Tryd.lays160 : Go.Proofs.Lays.n160 Tryd.prog Tryd.lays160_ren := {
  mixed := by kernel_rfl
  f119 := Tryd.func61.trans (congrArg some (by kernel_rfl))
  f120 := Tryd.func60.trans (congrArg some (by kernel_rfl))
  f137 := Tryd.func41.trans (congrArg some (by kernel_rfl))
  f151 := Tryd.func55.trans (congrArg some (by kernel_rfl))
  f152 := Tryd.func59.trans (congrArg some (by kernel_rfl))
  f160 := Tryd.func38.trans (congrArg some (by kernel_rfl))
  f197 := Tryd.func54.trans (congrArg some (by kernel_rfl))
  f217 := Tryd.func52.trans (congrArg some (by kernel_rfl))
  f224 := Tryd.func62.trans (congrArg some (by kernel_rfl))
  f225 := Tryd.func63.trans (congrArg some (by kernel_rfl))
  f227 := Tryd.func46.trans (congrArg some (by kernel_rfl))
  f228 := Tryd.func53.trans (congrArg some (by kernel_rfl))
  f231 := Tryd.func44.trans (congrArg some (by kernel_rfl))
  f232 := Tryd.func45.trans (congrArg some (by kernel_rfl))
  f233 := Tryd.func47.trans (congrArg some (by kernel_rfl))
  f234 := Tryd.func48.trans (congrArg some (by kernel_rfl))
  f235 := Tryd.func49.trans (congrArg some (by kernel_rfl))
  f236 := Tryd.func50.trans (congrArg some (by kernel_rfl))
  f260 := Tryd.func58.trans (congrArg some (by kernel_rfl))
  f266 := Tryd.func57.trans (congrArg some (by kernel_rfl))
  f271 := Tryd.func56.trans (congrArg some (by kernel_rfl))
  t0 := Tryd.underlying0
  a0 := Tryd.isAgg0
  z0 := Tryd.sizeOf0
  v0 := Tryd.zeroValue0
  t3 := Tryd.underlying3
  a3 := Tryd.isAgg3
  z3 := Tryd.sizeOf3
  v3 := Tryd.zeroValue3
  t4 := Tryd.underlying4
  a4 := Tryd.isAgg4
  z4 := Tryd.sizeOf4
  v4 := Tryd.zeroValue4
  t5 := Tryd.underlying5
  a5 := Tryd.isAgg5
  z5 := Tryd.sizeOf5
  v5 := Tryd.zeroValue5
  t9 := Tryd.underlying9
  a9 := Tryd.isAgg9
  z9 := Tryd.sizeOf9
  v9 := Tryd.zeroValue9
  t21 := Tryd.underlying21
  a21 := Tryd.isAgg21
  z21 := Tryd.sizeOf21
  v21 := Tryd.zeroValue21
  t46 := Tryd.underlying82
  a46 := Tryd.isAgg82
  z46 := Tryd.sizeOf82
  v46 := Tryd.zeroValue82
  t105 := Tryd.underlying77
  a105 := Tryd.isAgg77
  z105 := Tryd.sizeOf77
  v105 := Tryd.zeroValue77
  t116 := Tryd.underlying69
  a116 := Tryd.isAgg69
  z116 := Tryd.sizeOf69
  t117 := Tryd.underlying70
  a117 := Tryd.isAgg70
  z117 := Tryd.sizeOf70
  v117 := Tryd.zeroValue70
  t119 := Tryd.underlying81
  a119 := Tryd.isAgg81
  z119 := Tryd.sizeOf81
  t124 := Tryd.underlying73
  a124 := Tryd.isAgg73
  z124 := Tryd.sizeOf73
  v124 := Tryd.zeroValue73
  t138 := Tryd.underlying84
  a138 := Tryd.isAgg84
  z138 := Tryd.sizeOf84
  v138 := Tryd.zeroValue84
  t139 := Tryd.underlying85
  a139 := Tryd.isAgg85
  z139 := Tryd.sizeOf85
  v139 := Tryd.zeroValue85
  g3 := by kernel_rfl
  g4 := by kernel_rfl }
def Tryd.lays137_ren : Go.Shelf.Ren := ⟨fun | 137 => 41 | 217 => 52 | 266 => 57 | n => n, fun | 9 => 9 | 5 => 5 | 3 => 3 | n => n, fun | n => n⟩
theorem Tryd.lays137 : Go.Proofs.Lays.n137 Tryd.prog Tryd.lays137_ren := {
  mixed := by kernel_rfl
  f137 := Tryd.func41.trans (congrArg some (by kernel_rfl))
  f217 := Tryd.func52.trans (congrArg some (by kernel_rfl))
  f266 := Tryd.func57.trans (congrArg some (by kernel_rfl))
  t3 := Tryd.underlying3
  a3 := Tryd.isAgg3
  z3 := Tryd.sizeOf3
  v3 := Tryd.zeroValue3
  t5 := Tryd.underlying5
  a5 := Tryd.isAgg5
  z5 := Tryd.sizeOf5
  v5 := Tryd.zeroValue5
  t9 := Tryd.underlying9
  a9 := Tryd.isAgg9
  z9 := Tryd.sizeOf9
  v9 := Tryd.zeroValue9 }
def Tryd.lays111_ren : Go.Shelf.Ren := ⟨fun | 111 => 27 | n => n, fun | 28 => 33 | 3 => 3 | 4 => 4 | 0 => 0 | n => n, fun | n => n⟩
theorem Tryd.lays111 : Go.Proofs.Lays.n111 Tryd.prog Tryd.lays111_ren := {
  mixed := by kernel_rfl
  f111 := Tryd.func27.trans (congrArg some (by kernel_rfl))
  t0 := Tryd.underlying0
  a0 := Tryd.isAgg0
  z0 := Tryd.sizeOf0
  v0 := Tryd.zeroValue0
  t3 := Tryd.underlying3
  a3 := Tryd.isAgg3
  z3 := Tryd.sizeOf3
  v3 := Tryd.zeroValue3
  t4 := Tryd.underlying4
  a4 := Tryd.isAgg4
  z4 := Tryd.sizeOf4
  v4 := Tryd.zeroValue4
  t28 := Tryd.underlying33
  a28 := Tryd.isAgg33
  z28 := Tryd.sizeOf33
  v28 := Tryd.zeroValue33 }

end Go.Proofs
