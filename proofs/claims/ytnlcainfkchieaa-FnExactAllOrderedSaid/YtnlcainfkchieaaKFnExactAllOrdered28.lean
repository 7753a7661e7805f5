/- Pack 28 of what FnExactAllOrdered needs: RacL, VrS. -/
import Derived.Test.YtnlcainfkchieaaKFnExactAllOrdered27
import Derived.Laws.CopyOwn
import Derived.Laws.Tables
/- raceTo: the race with a result. -/
namespace Go.Proofs.Ytnlcainfkchieaa
open Go.RowKit
set_option linter.unusedVariables false
def rr (a b c d : Nat) : Nat → Nat | 0 => a | 1 => b | 2 => c | _ => d
theorem rr_sm {a b c d : Nat} (h1 : b ≤ a) (h2 : c ≤ b) (h3 : d ≤ c) (h : a + b + c + d ≤ 16) : sm (rr a b c d) := fun j hj => by
  have : j = 0 ∨ j = 1 ∨ j = 2 ∨ j = 3 := by omega
  rcases this with e | e | e | e <;> subst e <;> simp [rr] <;> omega
theorem rr_tot {a b c d : Nat} (h : a + b + c + d ≤ 16) : tot (rr a b c d) ≤ 16 := h
theorem intSz9 : (Try.prog.info? 3).map (fun i => i.size) = some 1 := by kernel_rfl
theorem stSz : (Try.prog.info? 55).map (·.size) = some 4 := by kernel_rfl
theorem raceSz : (Try.prog.info? 58).map (·.size) = some 5 := by kernel_rfl
theorem mapW_setRow {w : World} {mb g : Nat} {V : (Nat → Nat) → Nat} (h : MapW w mb V) (cs : Array Value) (hne : mb ≠ g) : MapW (w.setRow g cs) mb V := by
  obtain ⟨es, cl, h1, h2, h4⟩ := h
  refine ⟨es, cl, ?_, h2, h4⟩
  rw [← h1]
  exact setRow_other w g mb cs hne
set_option maxRecDepth 100000 in
set_option maxHeartbeats 4000000 in
theorem raceTo_yes (v : Value) (a b c d : Nat) (w : World) (h : RInts w v (q4 a b c d)) (h1 : b ≤ a) (h2 : c ≤ b) (h3 : d ≤ c) (h16 : a + b + c + d ≤ 16) :
    Calls Try.prog 51 #[v] w fun e w' => ∃ mb, e = .returned (.tuple #[raceV (rr a b c d) mb, .int .i64 (coV (q4 a b c d)), .bool true]) ∧ MapW w' mb (W (rr a b c d)) ∧ w.heap.size ≤ mb ∧ Below w.heap.size w w' := by
  have hr : resB (q4 a b c d) = true := (resB_iff _).2 ⟨a, b, c, d, rfl, h1, h2, h3, h16⟩
  have hco : coW (q4 a b c d) = coV (q4 a b c d) := by unfold coW; rw [if_pos hr]
  obtain ⟨g, o, cc, rfl, hg, hcells⟩ := h.cells (by simp [q4])
  have H := Lib.hid h
  have HC : Hid (∀ w1, Below w.heap.size w w1 → Calls Try.prog 24 #[.slice (some ⟨g, o, none⟩) 4 cc] w1 fun e w' => e = .returned (.tuple #[.int .i64 (coV (q4 a b c d)), .bool true]) ∧ Below w1.heap.size w1 w') := Lib.hid fun w1 hb => by
    have := countOrd_ret (.slice (some ⟨g, o, none⟩) 4 cc) (q4 a b c d) w1 (H.out.below hb) (by simp [q4])
    rw [hco, hr] at this
    exact this
  have HSRC : Hid (∀ w1, Below w.heap.size w w1 → ∀ j v, ([.int .i64 (a : Int), .int .i64 (b : Int), .int .i64 (c : Int), .int .i64 (d : Int)] : List Value)[j]? = some v → w1.cell? ((⟨g, o, none⟩ : Addr).add j) = some v) := Lib.hid fun w1 hb j v hj => by
    have hj4 : j < 4 := by
      rcases Nat.lt_or_ge j 4 with h | h
      · exact h
      · rw [List.getElem?_eq_none (by simpa using h)] at hj; cases hj
    have hc := hcells j (by simp [q4]; omega)
    have := (hb.cell (p := ⟨g, o + j, none⟩) hg).trans hc
    have hjj : j = 0 ∨ j = 1 ∨ j = 2 ∨ j = 3 := by omega
    rcases hjj with e | e | e | e <;> subst e <;> simp at hj <;> subst hj <;> exact this
  have HN : Hid (∀ w1, Calls Try.prog 65 #[.agg #[.int .i64 (a : Int), .int .i64 (b : Int), .int .i64 (c : Int), .int .i64 (d : Int)]] w1 fun e w' => ∃ mb, e = .returned (.agg #[.int .i64 (a : Int), .int .i64 (b : Int), .int .i64 (c : Int), .int .i64 (d : Int), .map (some mb)]) ∧ MapW w' mb (W (rr a b c d)) ∧ w1.heap.size ≤ mb ∧ Below w1.heap.size w1 w') := Lib.hid fun w1 => newRace_any (rr a b c d) w1
  generalize hQ : coV (q4 a b c d) = Q at *
  rw [show (q4 a b c d).length = 4 from rfl]
  clear h hcells hco hr
  go_enter Try.func51, Try.ntmps51
  go_wp2_with (first
    | (go_at_call 24; refine (HC.out _ ((Below.refl _ _).alloc (Nat.le_refl _) _)).mono ?_; rintro e w1 ⟨rfl, hb1⟩
       have HB1 : Hid (Below w.heap.size w w1) := Lib.hid (((Below.refl _ _).alloc (Nat.le_refl _) _).trans (hb1.mono (by simp)))
       have hbx := hb1.block w.heap.size (by simp)
       rw [show (w.alloc (.cells #[.int .i64 0, .int .i64 0, .int .i64 0, .int .i64 0, .map none] 58)).heap[w.heap.size]? = some (.cells #[.int .i64 0, .int .i64 0, .int .i64 0, .int .i64 0, .map none] 58 (0, 0)) from heap_alloc_new _ _] at hbx
       have HBX := Lib.hid hbx
       have hsz1 := hb1.size
       simp at hsz1
       have HSZ1 : Hid (w.heap.size + 1 ≤ w1.heap.size) := Lib.hid hsz1
       have HG0 : Hid ((w1.alloc (.cells #[.int .i64 0, .int .i64 0, .int .i64 0, .int .i64 0] 55)).heap[w1.heap.size]? = some (.cells ([.int .i64 0, .int .i64 0, .int .i64 0, .int .i64 0] : List Value).toArray 55 (0, 0))) := Lib.hid (heap_alloc_new w1 _)
       have HB2 : Hid (Below w1.heap.size w1 (w1.alloc (.cells #[.int .i64 0, .int .i64 0, .int .i64 0, .int .i64 0] 55))) := Lib.hid ((Below.refl _ _).alloc (Nat.le_refl _) _)
       have HS2 := Lib.hid (HSRC.out (w1.alloc (.cells #[.int .i64 0, .int .i64 0, .int .i64 0, .int .i64 0] 55)) (HB1.out.alloc HB1.out.size _))
       clear hb1 hbx hsz1 HC HSRC)
    | (refine wpList_copy_splice rfl (.tmp 16) (.tmp 17) 22 22 rfl 3 Try.underlying22 intSz9 _ _ 4 4 4 _ rfl rfl w1.heap.size 0 [.int .i64 0, .int .i64 0, .int .i64 0, .int .i64 0] 55 HG0.out [.int .i64 (a : Int), .int .i64 (b : Int), .int .i64 (c : Int), .int .i64 (d : Int)] (by rfl) (fun _ => ⟨rfl, ⟨g, o, none⟩, rfl, HS2.out⟩) (by simp) (by simp [Value.oneCell']) w1.heap.size w1 HB2.out (Nat.le_refl _) ?_; intro w2 HG2 hB2
       have HH2 : Hid (w2.heap[w1.heap.size]? = some (.cells ([.int .i64 (a : Int), .int .i64 (b : Int), .int .i64 (c : Int), .int .i64 (d : Int)] : List Value).toArray 55 (0, 0))) := Lib.hid HG2.out
       have HZ2 : Hid (w1.heap.size ≤ w2.heap.size) := Lib.hid hB2.size
       have HBX2 : Hid (w2.heap[w.heap.size]? = some (.cells #[.int .i64 0, .int .i64 0, .int .i64 0, .int .i64 0, .map none] 58 (0, 0))) := Lib.hid ((hB2.block _ (by have := HSZ1.out; omega)).trans HBX.out)
       have HB02 : Hid (Below w.heap.size w w2) := Lib.hid (HB1.out.trans (hB2.mono (by have := HSZ1.out; omega)))
       clear HG2 HG0 HS2 HB2 hB2 HBX)
    | (refine wpList_load_row rfl 55 (.tmp 7) rfl w1.heap.size rfl 55 #[.int .i64 (a : Int), .int .i64 (b : Int), .int .i64 (c : Int), .int .i64 (d : Int)] (0, 0) _ HH2.out Try.underlying55 rfl stSz ?_)
    | (go_at_call 65; refine (HN.out _).mono ?_; rintro e w3 ⟨mb, rfl, hm, hmb, hb3⟩
       have HM3 := Lib.hid hm
       have HMB : Hid (w.heap.size < mb) := Lib.hid (by have := HSZ1.out; have := HZ2.out; omega)
       have HBX3 : Hid (w3.heap[w.heap.size]? = some (.cells #[.int .i64 0, .int .i64 0, .int .i64 0, .int .i64 0, .map none] 58 (0, 0))) := Lib.hid ((hb3.block _ (by have := HSZ1.out; have := HZ2.out; omega)).trans HBX2.out)
       have HB3 : Hid (Below w.heap.size w w3) := Lib.hid (HB02.out.trans (hb3.mono (by have := HSZ1.out; have := HZ2.out; omega)))
       clear hm hmb hb3 HH2 HBX2 HB02)
    | (refine wpList_store_row rfl 58 (.tmp 2) (.tmp 20) rfl w.heap.size #[.int .i64 (a : Int), .int .i64 (b : Int), .int .i64 (c : Int), .int .i64 (d : Int), .map (some mb)] rfl rfl 58 _ HBX3.out raceSz rfl (by simp [Value.oneCell']) ?_
       have HW4 : Hid (((w3.setRow w.heap.size #[.int .i64 (a : Int), .int .i64 (b : Int), .int .i64 (c : Int), .int .i64 (d : Int), .map (some mb)]).heap[w.heap.size]? = some (.cells #[.int .i64 (a : Int), .int .i64 (b : Int), .int .i64 (c : Int), .int .i64 (d : Int), .map (some mb)] 58 (0, 0))) ∧ MapW (w3.setRow w.heap.size #[.int .i64 (a : Int), .int .i64 (b : Int), .int .i64 (c : Int), .int .i64 (d : Int), .map (some mb)]) mb (W (rr a b c d)) ∧ Below w.heap.size w (w3.setRow w.heap.size #[.int .i64 (a : Int), .int .i64 (b : Int), .int .i64 (c : Int), .int .i64 (d : Int), .map (some mb)])) := Lib.hid ⟨setRow_heap _ _ _ _ _ _ HBX3.out, mapW_setRow HM3.out _ (by have := HMB.out; omega), below_setRow HB3.out (Nat.le_refl _) _⟩
       clear HM3 HBX3 HB3
       generalize w3.setRow w.heap.size #[.int .i64 (a : Int), .int .i64 (b : Int), .int .i64 (c : Int), .int .i64 (d : Int), .map (some mb)] = w4 at *))
  obtain ⟨hh, hm4, hb4⟩ := HW4.out
  have z0 : w4.cell? ⟨w.heap.size, 0, none⟩ = some (.int .i64 (a : Int)) := by simp [World.cell?, hh]
  have z1 : w4.cell? ⟨w.heap.size, 1, none⟩ = some (.int .i64 (b : Int)) := by simp [World.cell?, hh]
  have z2 : w4.cell? ⟨w.heap.size, 2, none⟩ = some (.int .i64 (c : Int)) := by simp [World.cell?, hh]
  have z3 : w4.cell? ⟨w.heap.size, 3, none⟩ = some (.int .i64 (d : Int)) := by simp [World.cell?, hh]
  have z4 : w4.cell? ⟨w.heap.size, 4, none⟩ = some (.map (some mb)) := by simp [World.cell?, hh]
  refine bodyPost_ret (v := .tuple #[raceV (rr a b c d) mb, .int .i64 Q, .bool true]) (by unfold raceV; simp [results, Try.results51, go_sem, z0, z1, z2, z3, z4]; exact ⟨rfl, rfl, rfl, rfl⟩) rfl ⟨mb, rfl, hm4, Nat.le_of_lt HMB.out, hb4⟩
set_option maxRecDepth 100000 in
set_option maxHeartbeats 4000000 in
theorem raceTo_no (v : Value) (xs : List Int) (w : World) (h : RInts w v xs) (hl : xs.length ≤ 1048576) (hr : resB xs = false) :
    Calls Try.prog 51 #[v] w fun e w' => e = .returned (.tuple #[.agg #[.int .i64 0, .int .i64 0, .int .i64 0, .int .i64 0, .map none], .int .i64 0, .bool false]) ∧ Below w.heap.size w w' := by
  have hco : coW xs = 0 := by unfold coW; rw [if_neg (by rw [hr]; decide)]
  have H := Lib.hid h
  have HC : Hid (∀ w1, Below w.heap.size w w1 → Calls Try.prog 24 #[v] w1 fun e w' => e = .returned (.tuple #[.int .i64 0, .bool false]) ∧ Below w1.heap.size w1 w') := Lib.hid fun w1 hb => by
    have := countOrd_ret v xs w1 (H.out.below hb) hl
    rw [hco, hr] at this
    exact this
  obtain ⟨A, c, rfl⟩ := h.shape
  clear h hco hr
  go_enter Try.func51, Try.ntmps51
  go_wp2_with (first
    | (go_at_call 24; refine (HC.out _ ((Below.refl _ _).alloc (Nat.le_refl _) _)).mono ?_; rintro e w1 ⟨rfl, hb1⟩
       have HB1 : Hid (Below w.heap.size w w1) := Lib.hid (((Below.refl _ _).alloc (Nat.le_refl _) _).trans (hb1.mono (by simp)))
       have hbx := hb1.block w.heap.size (by simp)
       rw [show (w.alloc (.cells #[.int .i64 0, .int .i64 0, .int .i64 0, .int .i64 0, .map none] 58)).heap[w.heap.size]? = some (.cells #[.int .i64 0, .int .i64 0, .int .i64 0, .int .i64 0, .map none] 58 (0, 0)) from heap_alloc_new _ _] at hbx
       have HBX := Lib.hid hbx
       clear hb1 hbx HC)
    | (refine wpList_store_row rfl 58 (.tmp 2) (.tmp 15) rfl w.heap.size #[.int .i64 0, .int .i64 0, .int .i64 0, .int .i64 0, .map none] rfl rfl 58 _ HBX.out raceSz rfl (by simp [Value.oneCell']) ?_
       have HW4 : Hid (((w1.setRow w.heap.size #[.int .i64 0, .int .i64 0, .int .i64 0, .int .i64 0, .map none]).heap[w.heap.size]? = some (.cells #[.int .i64 0, .int .i64 0, .int .i64 0, .int .i64 0, .map none] 58 (0, 0))) ∧ Below w.heap.size w (w1.setRow w.heap.size #[.int .i64 0, .int .i64 0, .int .i64 0, .int .i64 0, .map none])) := Lib.hid ⟨setRow_heap _ _ _ _ _ _ HBX.out, below_setRow HB1.out (Nat.le_refl _) _⟩
       clear HBX HB1
       generalize w1.setRow w.heap.size #[.int .i64 0, .int .i64 0, .int .i64 0, .int .i64 0, .map none] = w4 at *))
  obtain ⟨hh, hb4⟩ := HW4.out
  have z0 : w4.cell? ⟨w.heap.size, 0, none⟩ = some (.int .i64 0) := by simp [World.cell?, hh]
  have z1 : w4.cell? ⟨w.heap.size, 1, none⟩ = some (.int .i64 0) := by simp [World.cell?, hh]
  have z2 : w4.cell? ⟨w.heap.size, 2, none⟩ = some (.int .i64 0) := by simp [World.cell?, hh]
  have z3 : w4.cell? ⟨w.heap.size, 3, none⟩ = some (.int .i64 0) := by simp [World.cell?, hh]
  have z4 : w4.cell? ⟨w.heap.size, 4, none⟩ = some (.map none) := by simp [World.cell?, hh]
  refine bodyPost_ret (v := .tuple #[.agg #[.int .i64 0, .int .i64 0, .int .i64 0, .int .i64 0, .map none], .int .i64 0, .bool false]) (by simp [results, Try.results51, go_sem, z0, z1, z2, z3, z4]) rfl ⟨rfl, hb4⟩
end Go.Proofs.Ytnlcainfkchieaa

/- The votes of a rank: what the walk keeps. -/
namespace Go.Proofs.Ytnlcainfkchieaa
open Go.RowKit
set_option linter.unusedVariables false
def pCells (p : Nat → Nat) : Array Value := #[.int .i64 ((p 0 : Nat) : Int), .int .i64 ((p 1 : Nat) : Int), .int .i64 ((p 2 : Nat) : Int), .int .i64 ((p 3 : Nat) : Int)]
def rCells (R : Nat → Nat) (mb : Nat) : Array Value := #[.int .i64 ((R 0 : Nat) : Int), .int .i64 ((R 1 : Nat) : Int), .int .i64 ((R 2 : Nat) : Int), .int .i64 ((R 3 : Nat) : Int), .map (some mb)]
/-- the two boxes, the map, and what stays -/
structure VR (R p : Nat → Nat) (mb : Nat) (w W9 : World) : Prop where
  rc : W9.heap[w.heap.size]? = some (.cells (rCells R mb) 58 (0, 0))
  st : W9.heap[w.heap.size + 1]? = some (.cells (pCells p) 55 (0, 0))
  lt : mb < w.heap.size
  mp : MapW W9 mb (W R)
  gr : w.grownBy W9 (some mb)
section
variable {R p q : Nat → Nat} {mb : Nat} {w W9 W8 : World}
theorem VR.sz (h : VR R p mb w W9) : w.heap.size + 2 ≤ W9.heap.size := (Array.getElem?_eq_some_iff.1 h.st).1
theorem VR.step (h : VR R p mb w W9) (hm : MapW W8 mb (W R)) (hg : W9.grownBy W8 (some mb)) : VR R p mb w W8 := by
  have hz := h.sz
  have hl := h.lt
  have e : ∀ x, w.heap.size ≤ x → x < w.heap.size + 2 → W8.heap[x]? = W9.heap[x]? := fun x hx hx2 => hg.block x (by omega) (by intro he; injection he with he; omega)
  exact ⟨(e _ (by omega) (by omega)).trans h.rc, (e _ (by omega) (by omega)).trans h.st, hl, hm, grown_trans9 h.gr hg⟩
theorem VR.own (h : VR R p mb w W9) {r : Option Nat} (hg : W9.grownBy W8 r) (hr : ∀ j, r = some j → w.heap.size + 2 ≤ j) : VR R p mb w W8 := by
  have hz := h.sz
  have hl := h.lt
  have e : ∀ x, x < w.heap.size + 2 → W8.heap[x]? = W9.heap[x]? := fun x hx2 => hg.block x (by omega) (by intro he; have := hr x he.symm; omega)
  exact ⟨(e _ (by omega)).trans h.rc, (e _ (by omega)).trans h.st, hl, h.mp.kept hg (by intro he; have := hr mb he.symm; omega), ⟨hg.os.trans h.gr.os, hg.tape.trans h.gr.tape, hg.output.trans h.gr.output, Nat.le_trans h.gr.size hg.size, fun k hk hn => (e k (by omega)).trans (h.gr.block k hk hn)⟩⟩
theorem VR.below (h : VR R p mb w W9) (hb : Below W9.heap.size W9 W8) : VR R p mb w W8 := h.own (grown_of_below hb none) (fun j hj => by cases hj)
theorem VR.set (h : VR R p mb w W9) (q : Nat → Nat) : VR R q mb w (W9.setRow (w.heap.size + 1) (pCells q)) := by
  have hl := h.lt
  refine ⟨(setRow_other _ _ _ _ (by omega)).trans h.rc, setRow_heap _ _ _ _ _ _ h.st, hl, mapW_setRow h.mp _ (by omega), ⟨h.gr.os, h.gr.tape, h.gr.output, Nat.le_trans h.gr.size (by simp [World.setRow]), fun k hk hn => (setRow_other _ _ _ _ (by omega)).trans (h.gr.block k hk hn)⟩⟩
theorem VR.start (h : MapW w mb (W R)) : VR R p mb w ((w.alloc (.cells (rCells R mb) 58)).alloc (.cells (pCells p) 55)) := by
  have hb : Below w.heap.size w ((w.alloc (.cells (rCells R mb) 58)).alloc (.cells (pCells p) 55)) := ((Below.refl _ _).alloc (Nat.le_refl _) _).alloc (by simp) _
  refine ⟨?_, ?_, h.lt, h.below hb, grown_of_below hb _⟩
  · rw [((Below.refl (w.alloc (.cells (rCells R mb) 58)).heap.size _).alloc (Nat.le_refl _) _).block w.heap.size (by simp)]
    exact heap_alloc_new _ _
  · have := heap_alloc_new (w.alloc (.cells (rCells R mb) 58)) (.cells (pCells p) 55)
    simpa using this
theorem VR.cells (h : VR R p mb w W9) : (W9.cell? ⟨w.heap.size, 0, none⟩ = some (.int .i64 ((R 0 : Nat) : Int)) ∧ W9.cell? ⟨w.heap.size, 1, none⟩ = some (.int .i64 ((R 1 : Nat) : Int)) ∧ W9.cell? ⟨w.heap.size, 2, none⟩ = some (.int .i64 ((R 2 : Nat) : Int)) ∧ W9.cell? ⟨w.heap.size, 3, none⟩ = some (.int .i64 ((R 3 : Nat) : Int)) ∧ W9.cell? ⟨w.heap.size, 4, none⟩ = some (.map (some mb)) ∧
    W9.cell? ⟨w.heap.size + 1, 0, none⟩ = some (.int .i64 ((p 0 : Nat) : Int)) ∧ W9.cell? ⟨w.heap.size + 1, 1, none⟩ = some (.int .i64 ((p 1 : Nat) : Int)) ∧ W9.cell? ⟨w.heap.size + 1, 2, none⟩ = some (.int .i64 ((p 2 : Nat) : Int)) ∧ W9.cell? ⟨w.heap.size + 1, 3, none⟩ = some (.int .i64 ((p 3 : Nat) : Int))) := by
  have h1 := h.rc
  have h2 := h.st
  unfold rCells at h1
  unfold pCells at h2
  refine ⟨?_, ?_, ?_, ?_, ?_, ?_, ?_, ?_, ?_⟩ <;> simp [World.cell?, h1, h2]
theorem BOwn.map {v : Value} {B : Nat} {xs : List UInt8} (h : BOwn W9 B v xs) (hg : W9.grownBy W8 (some mb)) (hm : mb < B) : BOwn W8 B v xs := by
  rcases h with ⟨h1, h2⟩
  refine ⟨h1, ?_⟩
  rcases h2 with h3 | ⟨g, cap, cur, e1, e2, e3, e4⟩
  · exact .inl h3
  · exact .inr ⟨g, cap, cur, e1, e2, (hg.block g (Array.getElem?_eq_some_iff.1 e3).1 (by intro he; injection he with he; omega)).trans e3, e4⟩
end
def lett (l : List Nat) : List UInt8 := l.map fun c => UInt8.ofNat (97 + c)
end Go.Proofs.Ytnlcainfkchieaa
