/- Pack 29 of what FnExactVotesOfTable needs: VoD3, VoD4. -/
import Derived.Test.YtmfcknlpbliehaaDoorKFnExactVotesOfTable28
/- letIn: votes come in up to the first one that would overtake. -/
namespace Go.Proofs.YtmfcknlpbliehaaDoor
open Go.RowKit
set_option linter.unusedVariables false
def vp (s : ByteArray) (k : Nat) : Nat → Nat := fun c => vc s c k
theorem vp_up (s : ByteArray) (k : Nat) : up (vp s k) (cd s k) = vp s (k + 1) := by
  funext c
  unfold up vp
  rw [vc]
  by_cases h : c = cd s k
  · rw [if_pos h, if_pos h.symm]
  · rw [if_neg h, if_neg (fun e => h e.symm)]; rfl
theorem tot_vp {s : ByteArray} (hv : votB s = true) {k : Nat} (hk : k ≤ s.size) : tot (vp s k) = k := vcS hv hk
theorem ov_iff {s : ByteArray} (hv : votB s = true) {k : Nat} (hk : k < s.size) (h0 : foTo s k = 0) : ovB (vp s k) (cd s k) = !(faB s (k + 1)) := by
  have h := fa_over (votB_lt hv k hk) (fo_fall h0)
  unfold ovB vp
  cases hf : faB s (k + 1) with
  | false =>
    have := h.1 hf
    rw [decide_eq_true this.1, decide_eq_true this.2]; rfl
  | true =>
    rw [hf] at h
    simp at h
    by_cases e : 0 < cd s k
    · rw [decide_eq_true e, decide_eq_false (h e)]; rfl
    · rw [decide_eq_false e]; rfl
/-- what letIn hands back -/
def LetIn (s : ByteArray) (w : World) (e : Ending) (w' : World) : Prop :=
  ∃ p : Nat → Nat, e = .returned (.tuple #[stA p, .int .i64 ((foTo s s.size : Nat) : Int)]) ∧ (foTo s s.size = 0 → p = vp s s.size) ∧ Below w.heap.size w w'
/-- what stands while votes come in -/
structure LI (s : ByteArray) (k : Nat) (w W : World) : Prop where
  box : B4 w.heap.size (vp s k) W
  stop : W.cell? ⟨w.heap.size + 1, 0, none⟩ = some (.int .i64 0)
  free : W.frozen? ⟨w.heap.size + 1, 0, none⟩ = false
  size : w.heap.size + 2 ≤ W.heap.size
  bel : Below w.heap.size w W
theorem LI.start (s : ByteArray) (w : World) (T1 T2 : TypeId) : LI s 0 w ((w.alloc (.cells #[.int .i64 0, .int .i64 0, .int .i64 0, .int .i64 0] T1)).alloc (.cells #[.int .i64 0] T2)) := by
  have h := (B4.new (p := fun _ => 0) w T1)
  have hb : Below w.heap.size w ((w.alloc (.cells #[.int .i64 0, .int .i64 0, .int .i64 0, .int .i64 0] T1)).alloc (.cells #[.int .i64 0] T2)) := ((Below.refl _ _).alloc (Nat.le_refl _) _).alloc (by simp) _
  exact ⟨h.below ((Below.refl _ _).alloc (Nat.le_refl _) _), by simp [go_sem], by simp [go_sem], by simp, hb⟩
theorem LI.below {s : ByteArray} {k : Nat} {w W W' : World} (h : LI s k w W) (hb : Below W.heap.size W W') : LI s k w W' :=
  ⟨h.box.below hb, (hb.cell (p := ⟨w.heap.size + 1, 0, none⟩) (by have := h.size; show w.heap.size + 1 < _; omega)).trans h.stop, by
    have := hb.block (w.heap.size + 1) (by have := h.size; omega)
    have e : W'.frozen? ⟨w.heap.size + 1, 0, none⟩ = W.frozen? ⟨w.heap.size + 1, 0, none⟩ := by unfold World.frozen?; rw [this]
    rw [e]; exact h.free, Nat.le_trans h.size hb.size, h.bel.trans (hb.mono h.bel.size)⟩
theorem LI.next {s : ByteArray} {k : Nat} {w W W' : World} (h : LI s k w W) (hB : B4 w.heap.size (vp s (k + 1)) W') (hg : W.grownBy W' (some w.heap.size)) : LI s (k + 1) w W' := by
  have e1 : W'.heap[w.heap.size + 1]? = W.heap[w.heap.size + 1]? := hg.block _ (by have := h.size; omega) (by intro e; injection e with e; omega)
  refine ⟨hB, ?_, ?_, Nat.le_trans h.size hg.size, h.bel.grown hg h.bel.size (fun q hq => by injection hq with hq; omega)⟩
  · have : W'.cell? ⟨w.heap.size + 1, 0, none⟩ = W.cell? ⟨w.heap.size + 1, 0, none⟩ := by unfold World.cell?; rw [e1]
    rw [this]; exact h.stop
  · have : W'.frozen? ⟨w.heap.size + 1, 0, none⟩ = W.frozen? ⟨w.heap.size + 1, 0, none⟩ := by unfold World.frozen?; rw [e1]
    rw [this]; exact h.free
theorem B4.same {b : Nat} {p : Nat → Nat} {W : World} (h : B4 b p W) (c : Nat) (hc : c < 4) : B4 b p (W.setCell ⟨b, c, none⟩ (.int .i64 ((p c : Nat) : Int))) := by
  refine ⟨fun j hj => ?_, fun j hj => ?_, ?_⟩
  · by_cases e : j = c
    · subst e
      exact World.cell?_setCell_same W ⟨b, j, none⟩ _ (h.cell j hj)
    · rw [World.cell?_setCell_other W ⟨b, c, none⟩ ⟨b, j, none⟩ _ (fun x => e (by injection x with _ x; exact x.symm))]
      exact h.cell j hj
  · rw [World.frozen?_setCell]; exact h.free j hj
  · simp [World.setCell]; exact h.lt
theorem LI.same {s : ByteArray} {k : Nat} {w W : World} (h : LI s k w W) (c : Nat) (hc : c < 4) : LI s k w (W.setCell ⟨w.heap.size, c, none⟩ (.int .i64 ((vp s k c : Nat) : Int))) :=
  ⟨h.box.same c hc, (World.cell?_setCell_other W ⟨w.heap.size, c, none⟩ ⟨w.heap.size + 1, 0, none⟩ _ (fun x => by injection x with x; omega)).trans h.stop, by rw [World.frozen?_setCell]; exact h.free, by simp [World.setCell]; exact h.size, h.bel.setCell (p := ⟨w.heap.size, c, none⟩) (Nat.le_refl _) _⟩
theorem LI.fin {s : ByteArray} {k : Nat} {w W : World} (h : LI s k w W) (x : Int) :
    ((W.setCell ⟨w.heap.size + 1, 0, none⟩ (.int .i64 x)).cell? ⟨w.heap.size, 0, none⟩ = some (.int .i64 ((vp s k 0 : Nat) : Int)) ∧ (W.setCell ⟨w.heap.size + 1, 0, none⟩ (.int .i64 x)).cell? ⟨w.heap.size, 1, none⟩ = some (.int .i64 ((vp s k 1 : Nat) : Int)) ∧ (W.setCell ⟨w.heap.size + 1, 0, none⟩ (.int .i64 x)).cell? ⟨w.heap.size, 2, none⟩ = some (.int .i64 ((vp s k 2 : Nat) : Int)) ∧ (W.setCell ⟨w.heap.size + 1, 0, none⟩ (.int .i64 x)).cell? ⟨w.heap.size, 3, none⟩ = some (.int .i64 ((vp s k 3 : Nat) : Int))) ∧ (W.setCell ⟨w.heap.size + 1, 0, none⟩ (.int .i64 x)).cell? ⟨w.heap.size + 1, 0, none⟩ = some (.int .i64 x) ∧ Below w.heap.size w (W.setCell ⟨w.heap.size + 1, 0, none⟩ (.int .i64 x)) := by
  have o : ∀ j, j < 4 → (W.setCell ⟨w.heap.size + 1, 0, none⟩ (.int .i64 x)).cell? ⟨w.heap.size, j, none⟩ = some (.int .i64 ((vp s k j : Nat) : Int)) := fun j hj =>
    (World.cell?_setCell_other W ⟨w.heap.size + 1, 0, none⟩ ⟨w.heap.size, j, none⟩ _ (fun e => by injection e with e; omega)).trans (h.box.cell j hj)
  exact ⟨⟨o 0 (by omega), o 1 (by omega), o 2 (by omega), o 3 (by omega)⟩, World.cell?_setCell_same W ⟨w.heap.size + 1, 0, none⟩ _ h.stop, h.bel.setCell (p := ⟨w.heap.size + 1, 0, none⟩) (by simp) _⟩
set_option maxRecDepth 100000 in
set_option maxHeartbeats 4000000 in
theorem letIn_any (s : ByteArray) (w : World) (hv : votB s = true) : Calls Tryd.prog 33 #[.string s] w (LetIn s w) := by
  have hmf : ∀ (fn : Fn) (first cap : Array Value) (w : World), (Instr.makeFunc fn first cap).run Tryd.prog w = .ok (.func fn first cap) w := fun _ _ _ _ => rfl
  have h16 := ((votB_iff s).1 hv).1
  have HC : Hid (∀ (k : Nat) (h : k < s.size) (w : World), Calls Tryd.prog 34 #[.int .u8 (s[k].toNat : Int)] w fun e w' => e = .returned (.int .i64 ((cd s k : Nat) : Int)) ∧ w = w') := Lib.hid fun k h w => candOf_any s k w hv h
  have HP : Hid (∀ (k b : Nat) (w : World), k < s.size → foTo s k = 0 → faB s (k + 1) = false → B4 b (vp s k) w → Calls Tryd.prog 40 #[.pointer (some ⟨b, 0, none⟩), .int .i64 ((cd s k : Nat) : Int)] w fun e w' => e = .panicked [{ v := .iface 61 (.int .i64 ((k : Int) + 1)), recovered := false }] ∧ Below w.heap.size w w') := Lib.hid fun k b w hk h0 hf h => by
    have ho := ov_iff hv hk h0
    rw [hf] at ho
    refine (admit_any b (vp s k) (cd s k) (votB_lt hv k hk) (by rw [tot_vp hv (by omega)]; omega) w h).mono ?_
    rintro e w' (⟨_, he, hb⟩ | ⟨hn, _⟩)
    · unfold ovV at he
      rw [tot_vp hv (by omega)] at he
      exact ⟨he, hb⟩
    · rw [ho] at hn; cases hn
  have HN : Hid (∀ (k b : Nat) (w : World), k < s.size → foTo s k = 0 → faB s (k + 1) = true → B4 b (vp s k) w → Calls Tryd.prog 40 #[.pointer (some ⟨b, 0, none⟩), .int .i64 ((cd s k : Nat) : Int)] w fun e w' => e = .returned (.tuple #[]) ∧ B4 b (vp s (k + 1)) w' ∧ w.grownBy w' (some b)) := Lib.hid fun k b w hk h0 hf h => by
    have ho := ov_iff hv hk h0
    rw [hf] at ho
    refine (admit_any b (vp s k) (cd s k) (votB_lt hv k hk) (by rw [tot_vp hv (by omega)]; omega) w h).mono ?_
    rintro e w' (⟨hn, _⟩ | ⟨_, he, hB, hg⟩)
    · rw [ho] at hn; cases hn
    · rw [vp_up] at hB
      exact ⟨he, hB, hg⟩
  have HFO : Hid (∀ k, k < s.size → foTo s k = 0 → faB s (k + 1) = false → foTo s s.size = k + 1) := Lib.hid fun k hk h hf => by
    have h1 := fo_no h hf
    rw [fo_stay (n := s.size) (k := k + 1) (show ¬ foTo s (k + 1) = 0 by omega) s.size (by omega), h1]
  have HFY : Hid (∀ k, foTo s k = 0 → faB s (k + 1) = true → foTo s (k + 1) = 0) := Lib.hid fun k h hf => fo_yes h hf
  have HL0 := Lib.hid (LI.start s w 38 3)
  clear hv
  unfold LetIn
  go_enter_defers Tryd.func33, Tryd.ntmps33
  go_wp2
  go_loopw [4, 8] (fun q i wr => ∃ k : Nat, k ≤ s.size ∧ i = .int .i64 (k : Int) ∧ Hid (foTo s k = 0) ∧ Hid (LI s k w wr)) (fun _ i _ => s.size - (intOf i).toNat)
  case atStart => exact ⟨0, Nat.zero_le _, rfl, Lib.hid rfl, HL0⟩
  case round =>
    obtain ⟨k, hk, rfl, HF, HL⟩ := hrel
    clear HL0
    by_cases hlt : k < s.size
    · have HCK := Lib.hid (HC.out k hlt)
      cases hf : faB s (k + 1) with
      | true =>
        have HNK := Lib.hid (fun w => HN.out k w · hlt HF.out hf)
        have HFK := Lib.hid (HFY.out k HF.out hf)
        clear hf HN HP HFO HFY HC
        go_wp2_with (first | (go_at_call 34; refine (HCK.out _).mono ?_; rintro e w' ⟨rfl, rfl⟩) | (go_at_call 40; refine (HNK.out _ _ HL.out.box).mono ?_; rintro e w1 ⟨rfl, hB1, hg1⟩; have HL1 := Lib.hid (HL.out.next hB1 hg1)))
        go_roundw
        case rel => exact ⟨k + 1, by omega, by go_num, HFK, HL1⟩
        case measure => first | (simp [intOf]; done) | (simp [intOf]; omega)
      | false =>
        have HPK := Lib.hid (fun w => HP.out k w · hlt HF.out hf)
        have HFK := Lib.hid (HFO.out k hlt HF.out hf)
        clear hf HN HP HFO HFY HC
        go_wp2_with (first | (go_at_call 34; refine (HCK.out _).mono ?_; rintro e w' ⟨rfl, rfl⟩) | (go_at_call 40; refine (HPK.out _ _ HL.out.box).mono ?_; rintro e w1 ⟨rfl, hb1⟩; have HL1 := Lib.hid (HL.out.below hb1)))
        refine leaves_cons (f := 39) (args := #[.pointer (some ⟨w.heap.size + 1, 0, none⟩)]) (by simp) (by simp [go_sem]) ?_
        refine (catch_panicking ⟨w.heap.size + 1, 0, none⟩ 0 _ [] _ HL1.out.stop HL1.out.free).mono ?_
        rintro e u' w'' ⟨rfl, rfl, rfl⟩
        obtain ⟨⟨d0, d1, d2, d3⟩, d4, hbl⟩ := HL1.out.fin ((k : Int) + 1)
        simp [Leaves, settle, results, Tryd.results33, go_sem, d0, d1, d2, d3, d4]
        exact ⟨vp s k, ⟨rfl, by have := HFK.out; omega⟩, fun h => by have := HFK.out; omega, hbl⟩
    · obtain rfl : k = s.size := by omega
      clear HN HP HFO HFY HC
      have c0 := HL.out.box.cell 0 (by omega)
      have c1 := HL.out.box.cell 1 (by omega)
      have c2 := HL.out.box.cell 2 (by omega)
      have c3 := HL.out.box.cell 3 (by omega)
      have f0 := HL.out.box.free 0 (by omega)
      have f1 := HL.out.box.free 1 (by omega)
      have f2 := HL.out.box.free 2 (by omega)
      have f3 := HL.out.box.free 3 (by omega)
      have cs := HL.out.stop
      have fs := HL.out.free
      go_wp2
      obtain ⟨⟨d0, d1, d2, d3⟩, d4, hbl⟩ := ((((HL.out.same 0 (by omega)).same 1 (by omega)).same 2 (by omega)).same 3 (by omega)).fin 0
      refine leaves_cons (f := 39) (args := #[.pointer (some ⟨w.heap.size + 1, 0, none⟩)]) (by simp) (by simp [go_sem]) ?_
      refine (catch_idle ⟨w.heap.size + 1, 0, none⟩ _).mono ?_
      rintro e u' w'' ⟨rfl, rfl, rfl⟩
      simp [Leaves, settle, results, Tryd.results33, go_sem, d0, d1, d2, d3, d4]
      exact ⟨vp s s.size, ⟨rfl, by have := HF.out; omega⟩, fun _ => rfl, hbl⟩
end Go.Proofs.YtmfcknlpbliehaaDoor

/- The program: orderedResult, IsOrdered, FirstOvertaken. -/
namespace Go.Proofs.YtmfcknlpbliehaaDoor
open Go.RowKit
set_option linter.unusedVariables false
def ordP (s : ByteArray) : Nat → Nat := if oB s = true then vp s s.size else fun _ => 0
set_option maxRecDepth 100000 in
set_option maxHeartbeats 1600000 in
theorem ordRes_any (s : ByteArray) (w : World) (hs : s.size ≤ maxLen) : Calls Tryd.prog 18 #[.string s] w (Ret w (.tuple #[stA (ordP s), .bool (oB s)])) := by
  have HA : Hid (∀ w, Calls Tryd.prog 32 #[.string s] w (Ret w (.bool (votB s)))) := Lib.hid fun w => areVotes_any s w hs
  unfold ordP oB
  rcases Bool.eq_false_or_eq_true (votB s) with hv | hv
  · have HL : Hid (∀ w, Calls Tryd.prog 33 #[.string s] w (LetIn s w)) := Lib.hid fun w => letIn_any s w hv
    unfold LetIn at HL
    rw [hv] at HA
    rw [hv, Bool.true_and]
    clear hv
    by_cases h0 : foTo s s.size = 0
    · rw [decide_eq_true h0, if_pos rfl]
      have HL2 : Hid (∀ w, Calls Tryd.prog 33 #[.string s] w fun e w' => e = .returned (.tuple #[stA (vp s s.size), .int .i64 0]) ∧ Below w.heap.size w w') := Lib.hid fun w => (HL.out w).mono fun e w' ⟨p, he, hp, hb⟩ => by
        rw [h0] at he
        rw [hp h0] at he
        exact ⟨he, hb⟩
      clear h0 HL
      generalize vp s s.size = p at *
      unfold stA at *
      go_enter Tryd.func18, Tryd.ntmps18
      go_wp2_with (first | (go_at_call 32; refine (HA.out _).mono ?_; rintro e w1 ⟨rfl, hb1⟩; have HB1 : Hid (B4 w.heap.size (fun _ => 0) w1) := Lib.hid ((B4.new (p := fun _ => 0) w 38).below hb1)) | (go_at_call 33; refine (HL2.out _).mono ?_; rintro e w2 ⟨rfl, hb2⟩; have hB2 := HB1.out.below hb2; have c0 : w2.cell? ⟨w.heap.size, 0, none⟩ = some (.int .i64 0) := hB2.cell 0 (by omega); have c1 : w2.cell? ⟨w.heap.size, 1, none⟩ = some (.int .i64 0) := hB2.cell 1 (by omega); have c2 : w2.cell? ⟨w.heap.size, 2, none⟩ = some (.int .i64 0) := hB2.cell 2 (by omega); have c3 : w2.cell? ⟨w.heap.size, 3, none⟩ = some (.int .i64 0) := hB2.cell 3 (by omega); have f0 := hB2.free 0 (by omega); have f1 := hB2.free 1 (by omega); have f2 := hB2.free 2 (by omega); have f3 := hB2.free 3 (by omega); have hlt2 := hB2.lt; clear hB2))
      refine bodyPost_ret (v := .tuple #[.agg #[.int .i64 ((p 0 : Nat) : Int), .int .i64 ((p 1 : Nat) : Int), .int .i64 ((p 2 : Nat) : Int), .int .i64 ((p 3 : Nat) : Int)], .bool true]) (by simp [results, Tryd.results18, go_sem, c0, c1, c2, c3, hlt2]) rfl ⟨rfl, ?_⟩
      have hbase : Below w.heap.size w w2 := (((Below.refl _ _).alloc (Nat.le_refl _) _).trans (hb1.mono (by simp))).trans (hb2.mono (by have := hb1.size; simp at this; omega))
      exact ((((hbase.setCell (p := ⟨w.heap.size, 0, none⟩) (Nat.le_refl _) _).setCell (p := ⟨w.heap.size, 1, none⟩) (Nat.le_refl _) _).setCell (p := ⟨w.heap.size, 2, none⟩) (Nat.le_refl _) _).setCell (p := ⟨w.heap.size, 3, none⟩) (Nat.le_refl _) _).alloc (by simp [World.setCell]; omega) _
    · rw [decide_eq_false h0, if_neg (by simp)]
      have hpos : (foTo s s.size : Int) > 0 := by omega
      generalize foTo s s.size = F at *
      unfold stA at *
      go_enter Tryd.func18, Tryd.ntmps18
      go_wp2_with (first | (go_at_call 32; refine (HA.out _).mono ?_; rintro e w1 ⟨rfl, hb1⟩; have HB1 : Hid (B4 w.heap.size (fun _ => 0) w1) := Lib.hid ((B4.new (p := fun _ => 0) w 38).below hb1)) | (go_at_call 33; refine (HL.out _).mono ?_; rintro e w2 ⟨p2, rfl, hp2, hb2⟩; clear hp2; have hB2 := HB1.out.below hb2; have c0 : w2.cell? ⟨w.heap.size, 0, none⟩ = some (.int .i64 0) := hB2.cell 0 (by omega); have c1 : w2.cell? ⟨w.heap.size, 1, none⟩ = some (.int .i64 0) := hB2.cell 1 (by omega); have c2 : w2.cell? ⟨w.heap.size, 2, none⟩ = some (.int .i64 0) := hB2.cell 2 (by omega); have c3 : w2.cell? ⟨w.heap.size, 3, none⟩ = some (.int .i64 0) := hB2.cell 3 (by omega); have f0 := hB2.free 0 (by omega); have f1 := hB2.free 1 (by omega); have f2 := hB2.free 2 (by omega); have f3 := hB2.free 3 (by omega); have hlt2 := hB2.lt; clear hB2))
      refine bodyPost_ret (v := .tuple #[.agg #[.int .i64 0, .int .i64 0, .int .i64 0, .int .i64 0], .bool false]) (by simp [results, Tryd.results18, go_sem, c0, c1, c2, c3, hlt2]) rfl ⟨rfl, ?_⟩
      have hbase : Below w.heap.size w w2 := (((Below.refl _ _).alloc (Nat.le_refl _) _).trans (hb1.mono (by simp))).trans (hb2.mono (by have := hb1.size; simp at this; omega))
      exact ((((hbase.setCell (p := ⟨w.heap.size, 0, none⟩) (Nat.le_refl _) _).setCell (p := ⟨w.heap.size, 1, none⟩) (Nat.le_refl _) _).setCell (p := ⟨w.heap.size, 2, none⟩) (Nat.le_refl _) _).setCell (p := ⟨w.heap.size, 3, none⟩) (Nat.le_refl _) _).alloc (by simp [World.setCell]; omega) _
  · rw [hv] at HA
    rw [hv, Bool.false_and, if_neg (by simp)]
    clear hv
    unfold stA
    go_enter Tryd.func18, Tryd.ntmps18
    go_wp2_with (go_at_call 32; refine (HA.out _).mono ?_; rintro e w1 ⟨rfl, hb1⟩; have hB2 : B4 w.heap.size (fun _ => 0) w1 := (B4.new (p := fun _ => 0) w 38).below hb1; have c0 : w1.cell? ⟨w.heap.size, 0, none⟩ = some (.int .i64 0) := hB2.cell 0 (by omega); have c1 : w1.cell? ⟨w.heap.size, 1, none⟩ = some (.int .i64 0) := hB2.cell 1 (by omega); have c2 : w1.cell? ⟨w.heap.size, 2, none⟩ = some (.int .i64 0) := hB2.cell 2 (by omega); have c3 : w1.cell? ⟨w.heap.size, 3, none⟩ = some (.int .i64 0) := hB2.cell 3 (by omega); have f0 := hB2.free 0 (by omega); have f1 := hB2.free 1 (by omega); have f2 := hB2.free 2 (by omega); have f3 := hB2.free 3 (by omega); have hlt2 := hB2.lt; clear hB2)
    refine bodyPost_ret (v := .tuple #[.agg #[.int .i64 0, .int .i64 0, .int .i64 0, .int .i64 0], .bool false]) (by simp [results, Tryd.results18, go_sem, c0, c1, c2, c3]) rfl ⟨rfl, ?_⟩
    have hbase : Below w.heap.size w w1 := ((Below.refl _ _).alloc (Nat.le_refl _) _).trans (hb1.mono (by simp))
    exact (((hbase.setCell (p := ⟨w.heap.size, 0, none⟩) (Nat.le_refl _) _).setCell (p := ⟨w.heap.size, 1, none⟩) (Nat.le_refl _) _).setCell (p := ⟨w.heap.size, 2, none⟩) (Nat.le_refl _) _).setCell (p := ⟨w.heap.size, 3, none⟩) (Nat.le_refl _) _
end Go.Proofs.YtmfcknlpbliehaaDoor
