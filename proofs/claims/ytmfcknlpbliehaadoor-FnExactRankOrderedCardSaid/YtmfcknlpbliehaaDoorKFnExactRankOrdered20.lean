/- Pack 20 of what FnExactRankOrdered needs: VoS3, VoD4. -/
import Derived.Test.YtmfcknlpbliehaaDoorKFnExactRankOrdered19
/- The model: CountsOfVotes, WinnersOf, LeadersAlong, IsOrdered, FirstOvertaken. -/
namespace Go.Proofs.YtmfcknlpbliehaaDoor
open Go.RowKit
set_option linter.unusedVariables false
def cntV9 (s : ByteArray) : List Int := if votB s = true then vcL s s.size else []
theorem cntV9_len (s : ByteArray) : (cntV9 s).length ≤ 4 := by unfold cntV9; split <;> simp [vcL]
def winV9 (s : ByteArray) : ByteArray := if votB s = true then wiV (vcL s s.size) else ⟨#[]⟩
def leaV9 (s : ByteArray) : List ByteArray := if votB s = true then leL s s.size else []
theorem leaV9_len (s : ByteArray) : (leaV9 s).length ≤ 16 := by
  unfold leaV9
  split
  · rename_i h
    rw [leL_len]
    exact ((votB_iff s).1 h).1
  · simp
def foV (s : ByteArray) : Int := if votB s = true then ((foTo s s.size : Nat) : Int) else 0
def foOk (s : ByteArray) : Bool := votB s && decide (0 < foTo s s.size)
end Go.Proofs.YtmfcknlpbliehaaDoor

/- The program: orderedResult, IsOrdered, FirstOvertaken. -/
namespace Go.Proofs.YtmfcknlpbliehaaDoor
open Go.RowKit
set_option linter.unusedVariables false
def ordP (s : ByteArray) : Nat → Nat := if oB s = true then vp s s.size else fun _ => 0
set_option maxRecDepth 100000 in
set_option maxHeartbeats 1600000 in
theorem ordRes_any (s : ByteArray) (w : World) (hs : s.size ≤ maxLen) : Calls Tryd.prog 18 #[.string s] w (Ret w (.tuple #[stA (ordP s), .bool (oB s)])) := by
  have HA : Hid (∀ w, Calls Tryd.prog 32 #[.string s] w (Ret w (.bool (votB s)))) := Lib.hid fun w => areVotes_any s w hs
  unfold ordP oB
  rcases Bool.eq_false_or_eq_true (votB s) with hv | hv
  · have HL : Hid (∀ w, Calls Tryd.prog 33 #[.string s] w (LetIn s w)) := Lib.hid fun w => letIn_any s w hv
    unfold LetIn at HL
    rw [hv] at HA
    rw [hv, Bool.true_and]
    clear hv
    by_cases h0 : foTo s s.size = 0
    · rw [decide_eq_true h0, if_pos rfl]
      have HL2 : Hid (∀ w, Calls Tryd.prog 33 #[.string s] w fun e w' => e = .returned (.tuple #[stA (vp s s.size), .int .i64 0]) ∧ Below w.heap.size w w') := Lib.hid fun w => (HL.out w).mono fun e w' ⟨p, he, hp, hb⟩ => by
        rw [h0] at he
        rw [hp h0] at he
        exact ⟨he, hb⟩
      clear h0 HL
      generalize vp s s.size = p at *
      unfold stA at *
      go_enter Tryd.func18, Tryd.ntmps18
      go_wp2_with (first | (go_at_call 32; refine (HA.out _).mono ?_; rintro e w1 ⟨rfl, hb1⟩; have HB1 : Hid (B4 w.heap.size (fun _ => 0) w1) := Lib.hid ((B4.new (p := fun _ => 0) w 38).below hb1)) | (go_at_call 33; refine (HL2.out _).mono ?_; rintro e w2 ⟨rfl, hb2⟩; have hB2 := HB1.out.below hb2; have c0 : w2.cell? ⟨w.heap.size, 0, none⟩ = some (.int .i64 0) := hB2.cell 0 (by omega); have c1 : w2.cell? ⟨w.heap.size, 1, none⟩ = some (.int .i64 0) := hB2.cell 1 (by omega); have c2 : w2.cell? ⟨w.heap.size, 2, none⟩ = some (.int .i64 0) := hB2.cell 2 (by omega); have c3 : w2.cell? ⟨w.heap.size, 3, none⟩ = some (.int .i64 0) := hB2.cell 3 (by omega); have f0 := hB2.free 0 (by omega); have f1 := hB2.free 1 (by omega); have f2 := hB2.free 2 (by omega); have f3 := hB2.free 3 (by omega); have hlt2 := hB2.lt; clear hB2))
      refine bodyPost_ret (v := .tuple #[.agg #[.int .i64 ((p 0 : Nat) : Int), .int .i64 ((p 1 : Nat) : Int), .int .i64 ((p 2 : Nat) : Int), .int .i64 ((p 3 : Nat) : Int)], .bool true]) (by simp [results, Tryd.results18, go_sem, c0, c1, c2, c3, hlt2]) rfl ⟨rfl, ?_⟩
      have hbase : Below w.heap.size w w2 := (((Below.refl _ _).alloc (Nat.le_refl _) _).trans (hb1.mono (by simp))).trans (hb2.mono (by have := hb1.size; simp at this; omega))
      exact ((((hbase.setCell (p := ⟨w.heap.size, 0, none⟩) (Nat.le_refl _) _).setCell (p := ⟨w.heap.size, 1, none⟩) (Nat.le_refl _) _).setCell (p := ⟨w.heap.size, 2, none⟩) (Nat.le_refl _) _).setCell (p := ⟨w.heap.size, 3, none⟩) (Nat.le_refl _) _).alloc (by simp [World.setCell]; omega) _
    · rw [decide_eq_false h0, if_neg (by simp)]
      have hpos : (foTo s s.size : Int) > 0 := by omega
      generalize foTo s s.size = F at *
      unfold stA at *
      go_enter Tryd.func18, Tryd.ntmps18
      go_wp2_with (first | (go_at_call 32; refine (HA.out _).mono ?_; rintro e w1 ⟨rfl, hb1⟩; have HB1 : Hid (B4 w.heap.size (fun _ => 0) w1) := Lib.hid ((B4.new (p := fun _ => 0) w 38).below hb1)) | (go_at_call 33; refine (HL.out _).mono ?_; rintro e w2 ⟨p2, rfl, hp2, hb2⟩; clear hp2; have hB2 := HB1.out.below hb2; have c0 : w2.cell? ⟨w.heap.size, 0, none⟩ = some (.int .i64 0) := hB2.cell 0 (by omega); have c1 : w2.cell? ⟨w.heap.size, 1, none⟩ = some (.int .i64 0) := hB2.cell 1 (by omega); have c2 : w2.cell? ⟨w.heap.size, 2, none⟩ = some (.int .i64 0) := hB2.cell 2 (by omega); have c3 : w2.cell? ⟨w.heap.size, 3, none⟩ = some (.int .i64 0) := hB2.cell 3 (by omega); have f0 := hB2.free 0 (by omega); have f1 := hB2.free 1 (by omega); have f2 := hB2.free 2 (by omega); have f3 := hB2.free 3 (by omega); have hlt2 := hB2.lt; clear hB2))
      refine bodyPost_ret (v := .tuple #[.agg #[.int .i64 0, .int .i64 0, .int .i64 0, .int .i64 0], .bool false]) (by simp [results, Tryd.results18, go_sem, c0, c1, c2, c3, hlt2]) rfl ⟨rfl, ?_⟩
      have hbase : Below w.heap.size w w2 := (((Below.refl _ _).alloc (Nat.le_refl _) _).trans (hb1.mono (by simp))).trans (hb2.mono (by have := hb1.size; simp at this; omega))
      exact ((((hbase.setCell (p := ⟨w.heap.size, 0, none⟩) (Nat.le_refl _) _).setCell (p := ⟨w.heap.size, 1, none⟩) (Nat.le_refl _) _).setCell (p := ⟨w.heap.size, 2, none⟩) (Nat.le_refl _) _).setCell (p := ⟨w.heap.size, 3, none⟩) (Nat.le_refl _) _).alloc (by simp [World.setCell]; omega) _
  · rw [hv] at HA
    rw [hv, Bool.false_and, if_neg (by simp)]
    clear hv
    unfold stA
    go_enter Tryd.func18, Tryd.ntmps18
    go_wp2_with (go_at_call 32; refine (HA.out _).mono ?_; rintro e w1 ⟨rfl, hb1⟩; have hB2 : B4 w.heap.size (fun _ => 0) w1 := (B4.new (p := fun _ => 0) w 38).below hb1; have c0 : w1.cell? ⟨w.heap.size, 0, none⟩ = some (.int .i64 0) := hB2.cell 0 (by omega); have c1 : w1.cell? ⟨w.heap.size, 1, none⟩ = some (.int .i64 0) := hB2.cell 1 (by omega); have c2 : w1.cell? ⟨w.heap.size, 2, none⟩ = some (.int .i64 0) := hB2.cell 2 (by omega); have c3 : w1.cell? ⟨w.heap.size, 3, none⟩ = some (.int .i64 0) := hB2.cell 3 (by omega); have f0 := hB2.free 0 (by omega); have f1 := hB2.free 1 (by omega); have f2 := hB2.free 2 (by omega); have f3 := hB2.free 3 (by omega); have hlt2 := hB2.lt; clear hB2)
    refine bodyPost_ret (v := .tuple #[.agg #[.int .i64 0, .int .i64 0, .int .i64 0, .int .i64 0], .bool false]) (by simp [results, Tryd.results18, go_sem, c0, c1, c2, c3]) rfl ⟨rfl, ?_⟩
    have hbase : Below w.heap.size w w1 := ((Below.refl _ _).alloc (Nat.le_refl _) _).trans (hb1.mono (by simp))
    exact (((hbase.setCell (p := ⟨w.heap.size, 0, none⟩) (Nat.le_refl _) _).setCell (p := ⟨w.heap.size, 1, none⟩) (Nat.le_refl _) _).setCell (p := ⟨w.heap.size, 2, none⟩) (Nat.le_refl _) _).setCell (p := ⟨w.heap.size, 3, none⟩) (Nat.le_refl _) _
end Go.Proofs.YtmfcknlpbliehaaDoor
