/- The program: orderedResult, IsOrdered, FirstOvertaken. -/
import Derived.Test.YtnlcainfkchieaaDoorVoD3
import Derived.Test.YtnlcainfkchieaaDoorVoS3
namespace Go.Proofs.YtnlcainfkchieaaDoor
open Go.RowKit
set_option linter.unusedVariables false
def ordP (s : ByteArray) : Nat → Nat := if oB s = true then vp s s.size else fun _ => 0
set_option maxRecDepth 100000 in
set_option maxHeartbeats 1600000 in
theorem ordRes_any (s : ByteArray) (w : World) (hs : s.size ≤ maxLen) : Calls Tryd.prog 55 #[.string s] w (Ret w (.tuple #[stA (ordP s), .bool (oB s)])) := by
  have HA : Hid (∀ w, Calls Tryd.prog 15 #[.string s] w (Ret w (.bool (votB s)))) := Lib.hid fun w => areVotes_any s w hs
  unfold ordP oB
  rcases Bool.eq_false_or_eq_true (votB s) with hv | hv
  · have HL : Hid (∀ w, Calls Tryd.prog 56 #[.string s] w (LetIn s w)) := Lib.hid fun w => letIn_any s w hv
    unfold LetIn at HL
    rw [hv] at HA
    rw [hv, Bool.true_and]
    clear hv
    by_cases h0 : foTo s s.size = 0
    · rw [decide_eq_true h0, if_pos rfl]
      have HL2 : Hid (∀ w, Calls Tryd.prog 56 #[.string s] w fun e w' => e = .returned (.tuple #[stA (vp s s.size), .int .i64 0]) ∧ Below w.heap.size w w') := Lib.hid fun w => (HL.out w).mono fun e w' ⟨p, he, hp, hb⟩ => by
        rw [h0] at he
        rw [hp h0] at he
        exact ⟨he, hb⟩
      clear h0 HL
      generalize vp s s.size = p at *
      unfold stA at *
      go_enter Tryd.func55, Tryd.ntmps55
      go_wp2_with (first | (go_at_call 15; refine (HA.out _).mono ?_; rintro e w1 ⟨rfl, hb1⟩; have HB1 : Hid (B4 w.heap.size (fun _ => 0) w1) := Lib.hid ((B4.new (p := fun _ => 0) w 56).below hb1)) | (go_at_call 56; refine (HL2.out _).mono ?_; rintro e w2 ⟨rfl, hb2⟩; have hB2 := HB1.out.below hb2; have c0 : w2.cell? ⟨w.heap.size, 0, none⟩ = some (.int .i64 0) := hB2.cell 0 (by omega); have c1 : w2.cell? ⟨w.heap.size, 1, none⟩ = some (.int .i64 0) := hB2.cell 1 (by omega); have c2 : w2.cell? ⟨w.heap.size, 2, none⟩ = some (.int .i64 0) := hB2.cell 2 (by omega); have c3 : w2.cell? ⟨w.heap.size, 3, none⟩ = some (.int .i64 0) := hB2.cell 3 (by omega); have f0 := hB2.free 0 (by omega); have f1 := hB2.free 1 (by omega); have f2 := hB2.free 2 (by omega); have f3 := hB2.free 3 (by omega); have hlt2 := hB2.lt; clear hB2))
      refine bodyPost_ret (v := .tuple #[.agg #[.int .i64 ((p 0 : Nat) : Int), .int .i64 ((p 1 : Nat) : Int), .int .i64 ((p 2 : Nat) : Int), .int .i64 ((p 3 : Nat) : Int)], .bool true]) (by simp [results, Tryd.results55, go_sem, c0, c1, c2, c3, hlt2]) rfl ⟨rfl, ?_⟩
      have hbase : Below w.heap.size w w2 := (((Below.refl _ _).alloc (Nat.le_refl _) _).trans (hb1.mono (by simp))).trans (hb2.mono (by have := hb1.size; simp at this; omega))
      exact ((((hbase.setCell (p := ⟨w.heap.size, 0, none⟩) (Nat.le_refl _) _).setCell (p := ⟨w.heap.size, 1, none⟩) (Nat.le_refl _) _).setCell (p := ⟨w.heap.size, 2, none⟩) (Nat.le_refl _) _).setCell (p := ⟨w.heap.size, 3, none⟩) (Nat.le_refl _) _).alloc (by simp [World.setCell]; omega) _
    · rw [decide_eq_false h0, if_neg (by simp)]
      have hpos : (foTo s s.size : Int) > 0 := by omega
      generalize foTo s s.size = F at *
      unfold stA at *
      go_enter Tryd.func55, Tryd.ntmps55
      go_wp2_with (first | (go_at_call 15; refine (HA.out _).mono ?_; rintro e w1 ⟨rfl, hb1⟩; have HB1 : Hid (B4 w.heap.size (fun _ => 0) w1) := Lib.hid ((B4.new (p := fun _ => 0) w 56).below hb1)) | (go_at_call 56; refine (HL.out _).mono ?_; rintro e w2 ⟨p2, rfl, hp2, hb2⟩; clear hp2; have hB2 := HB1.out.below hb2; have c0 : w2.cell? ⟨w.heap.size, 0, none⟩ = some (.int .i64 0) := hB2.cell 0 (by omega); have c1 : w2.cell? ⟨w.heap.size, 1, none⟩ = some (.int .i64 0) := hB2.cell 1 (by omega); have c2 : w2.cell? ⟨w.heap.size, 2, none⟩ = some (.int .i64 0) := hB2.cell 2 (by omega); have c3 : w2.cell? ⟨w.heap.size, 3, none⟩ = some (.int .i64 0) := hB2.cell 3 (by omega); have f0 := hB2.free 0 (by omega); have f1 := hB2.free 1 (by omega); have f2 := hB2.free 2 (by omega); have f3 := hB2.free 3 (by omega); have hlt2 := hB2.lt; clear hB2))
      refine bodyPost_ret (v := .tuple #[.agg #[.int .i64 0, .int .i64 0, .int .i64 0, .int .i64 0], .bool false]) (by simp [results, Tryd.results55, go_sem, c0, c1, c2, c3, hlt2]) rfl ⟨rfl, ?_⟩
      have hbase : Below w.heap.size w w2 := (((Below.refl _ _).alloc (Nat.le_refl _) _).trans (hb1.mono (by simp))).trans (hb2.mono (by have := hb1.size; simp at this; omega))
      exact ((((hbase.setCell (p := ⟨w.heap.size, 0, none⟩) (Nat.le_refl _) _).setCell (p := ⟨w.heap.size, 1, none⟩) (Nat.le_refl _) _).setCell (p := ⟨w.heap.size, 2, none⟩) (Nat.le_refl _) _).setCell (p := ⟨w.heap.size, 3, none⟩) (Nat.le_refl _) _).alloc (by simp [World.setCell]; omega) _
  · rw [hv] at HA
    rw [hv, Bool.false_and, if_neg (by simp)]
    clear hv
    unfold stA
    go_enter Tryd.func55, Tryd.ntmps55
    go_wp2_with (go_at_call 15; refine (HA.out _).mono ?_; rintro e w1 ⟨rfl, hb1⟩; have hB2 : B4 w.heap.size (fun _ => 0) w1 := (B4.new (p := fun _ => 0) w 56).below hb1; have c0 : w1.cell? ⟨w.heap.size, 0, none⟩ = some (.int .i64 0) := hB2.cell 0 (by omega); have c1 : w1.cell? ⟨w.heap.size, 1, none⟩ = some (.int .i64 0) := hB2.cell 1 (by omega); have c2 : w1.cell? ⟨w.heap.size, 2, none⟩ = some (.int .i64 0) := hB2.cell 2 (by omega); have c3 : w1.cell? ⟨w.heap.size, 3, none⟩ = some (.int .i64 0) := hB2.cell 3 (by omega); have f0 := hB2.free 0 (by omega); have f1 := hB2.free 1 (by omega); have f2 := hB2.free 2 (by omega); have f3 := hB2.free 3 (by omega); have hlt2 := hB2.lt; clear hB2)
    refine bodyPost_ret (v := .tuple #[.agg #[.int .i64 0, .int .i64 0, .int .i64 0, .int .i64 0], .bool false]) (by simp [results, Tryd.results55, go_sem, c0, c1, c2, c3]) rfl ⟨rfl, ?_⟩
    have hbase : Below w.heap.size w w1 := ((Below.refl _ _).alloc (Nat.le_refl _) _).trans (hb1.mono (by simp))
    exact (((hbase.setCell (p := ⟨w.heap.size, 0, none⟩) (Nat.le_refl _) _).setCell (p := ⟨w.heap.size, 1, none⟩) (Nat.le_refl _) _).setCell (p := ⟨w.heap.size, 2, none⟩) (Nat.le_refl _) _).setCell (p := ⟨w.heap.size, 3, none⟩) (Nat.le_refl _) _
theorem isOrdered_ret (s : ByteArray) (w : World) (hs : s.size ≤ maxLen) : Calls Tryd.prog 29 #[.string s] w (Ret w (.tuple #[.bool (oB s), .bool (votB s)])) := by
  have HA : Hid (∀ w, Calls Tryd.prog 15 #[.string s] w (Ret w (.bool (votB s)))) := Lib.hid fun w => areVotes_any s w hs
  have HO : Hid (∀ w, Calls Tryd.prog 55 #[.string s] w (Ret w (.tuple #[stA (ordP s), .bool (oB s)]))) := Lib.hid fun w => ordRes_any s w hs
  unfold stA at HO
  generalize ordP s = p at *
  generalize oB s = o at *
  generalize votB s = v at *
  go_enter Tryd.func29, Tryd.ntmps29
  go_wp2_with (first | (go_at_call 55; refine (HO.out _).mono ?_; rintro e w1 ⟨rfl, hb1⟩) | (go_at_call 15; refine (HA.out _).mono ?_; rintro e w2 ⟨rfl, hb2⟩))
  go_ret2
  exact ⟨rfl, (hb1.alloc hb1.size _).trans (hb2.mono (by have := hb1.size; simp; omega))⟩
theorem firstOver_ret (s : ByteArray) (w : World) (hs : s.size ≤ maxLen) : Calls Tryd.prog 31 #[.string s] w (Ret w (.tuple #[.int .i64 (foV s), .bool (foOk s)])) := by
  have HA : Hid (∀ w, Calls Tryd.prog 15 #[.string s] w (Ret w (.bool (votB s)))) := Lib.hid fun w => areVotes_any s w hs
  unfold foV foOk
  rcases Bool.eq_false_or_eq_true (votB s) with hv | hv
  · have HL : Hid (∀ w, Calls Tryd.prog 56 #[.string s] w (LetIn s w)) := Lib.hid fun w => letIn_any s w hv
    unfold LetIn stA at HL
    rw [hv] at HA
    rw [hv, if_pos rfl, Bool.true_and]
    clear hv
    generalize foTo s s.size = F at *
    go_enter Tryd.func31, Tryd.ntmps31
    go_wp2_with (first | (go_at_call 15; refine (HA.out _).mono ?_; rintro e w1 ⟨rfl, hb1⟩) | (go_at_call 56; refine (HL.out _).mono ?_; rintro e w2 ⟨p2, rfl, hp2, hb2⟩; clear hp2))
    go_ret2
    exact ⟨rfl, (hb1.trans (hb2.mono hb1.size)).alloc (by have := hb1.size; have := hb2.size; omega) _⟩
  · rw [hv] at HA
    rw [hv]
    clear hv
    go_enter Tryd.func31, Tryd.ntmps31
    go_wp2_with (go_at_call 15; refine (HA.out _).mono ?_; rintro e w1 ⟨rfl, hb1⟩)
    go_ret2
    exact ⟨rfl, hb1⟩
end Go.Proofs.YtnlcainfkchieaaDoor
