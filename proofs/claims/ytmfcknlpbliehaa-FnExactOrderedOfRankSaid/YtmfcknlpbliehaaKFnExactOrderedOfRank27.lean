/- Pack 27 of what FnExactOrderedOfRank needs: VrS, VorI. -/
import Derived.Test.YtmfcknlpbliehaaKFnExactOrderedOfRank26
/- The votes of a rank: what the walk keeps. -/
namespace Go.Proofs.Ytmfcknlpbliehaa
open Go.RowKit
set_option linter.unusedVariables false
def pCells (p : Nat → Nat) : Array Value := #[.int .i64 ((p 0 : Nat) : Int), .int .i64 ((p 1 : Nat) : Int), .int .i64 ((p 2 : Nat) : Int), .int .i64 ((p 3 : Nat) : Int)]
def rCells (R : Nat → Nat) (mb : Nat) : Array Value := #[.int .i64 ((R 0 : Nat) : Int), .int .i64 ((R 1 : Nat) : Int), .int .i64 ((R 2 : Nat) : Int), .int .i64 ((R 3 : Nat) : Int), .map (some mb)]
/-- the two boxes, the map, and what stays -/
structure VR (R p : Nat → Nat) (mb : Nat) (w W9 : World) : Prop where
  rc : W9.heap[w.heap.size]? = some (.cells (rCells R mb) 35 (0, 0))
  st : W9.heap[w.heap.size + 1]? = some (.cells (pCells p) 32 (0, 0))
  lt : mb < w.heap.size
  mp : MapW W9 mb (W R)
  gr : w.grownBy W9 (some mb)
section
variable {R p q : Nat → Nat} {mb : Nat} {w W9 W8 : World}
theorem VR.sz (h : VR R p mb w W9) : w.heap.size + 2 ≤ W9.heap.size := (Array.getElem?_eq_some_iff.1 h.st).1
theorem VR.step (h : VR R p mb w W9) (hm : MapW W8 mb (W R)) (hg : W9.grownBy W8 (some mb)) : VR R p mb w W8 := by
  have hz := h.sz
  have hl := h.lt
  have e : ∀ x, w.heap.size ≤ x → x < w.heap.size + 2 → W8.heap[x]? = W9.heap[x]? := fun x hx hx2 => hg.block x (by omega) (by intro he; injection he with he; omega)
  exact ⟨(e _ (by omega) (by omega)).trans h.rc, (e _ (by omega) (by omega)).trans h.st, hl, hm, grown_trans9 h.gr hg⟩
theorem VR.own (h : VR R p mb w W9) {r : Option Nat} (hg : W9.grownBy W8 r) (hr : ∀ j, r = some j → w.heap.size + 2 ≤ j) : VR R p mb w W8 := by
  have hz := h.sz
  have hl := h.lt
  have e : ∀ x, x < w.heap.size + 2 → W8.heap[x]? = W9.heap[x]? := fun x hx2 => hg.block x (by omega) (by intro he; have := hr x he.symm; omega)
  exact ⟨(e _ (by omega)).trans h.rc, (e _ (by omega)).trans h.st, hl, h.mp.kept hg (by intro he; have := hr mb he.symm; omega), ⟨hg.os.trans h.gr.os, hg.tape.trans h.gr.tape, hg.output.trans h.gr.output, Nat.le_trans h.gr.size hg.size, fun k hk hn => (e k (by omega)).trans (h.gr.block k hk hn)⟩⟩
theorem VR.below (h : VR R p mb w W9) (hb : Below W9.heap.size W9 W8) : VR R p mb w W8 := h.own (grown_of_below hb none) (fun j hj => by cases hj)
theorem VR.set (h : VR R p mb w W9) (q : Nat → Nat) : VR R q mb w (W9.setRow (w.heap.size + 1) (pCells q)) := by
  have hl := h.lt
  refine ⟨(setRow_other _ _ _ _ (by omega)).trans h.rc, setRow_heap _ _ _ _ _ _ h.st, hl, mapW_setRow h.mp _ (by omega), ⟨h.gr.os, h.gr.tape, h.gr.output, Nat.le_trans h.gr.size (by simp [World.setRow]), fun k hk hn => (setRow_other _ _ _ _ (by omega)).trans (h.gr.block k hk hn)⟩⟩
theorem VR.start (h : MapW w mb (W R)) : VR R p mb w ((w.alloc (.cells (rCells R mb) 35)).alloc (.cells (pCells p) 32)) := by
  have hb : Below w.heap.size w ((w.alloc (.cells (rCells R mb) 35)).alloc (.cells (pCells p) 32)) := ((Below.refl _ _).alloc (Nat.le_refl _) _).alloc (by simp) _
  refine ⟨?_, ?_, h.lt, h.below hb, grown_of_below hb _⟩
  · rw [((Below.refl (w.alloc (.cells (rCells R mb) 35)).heap.size _).alloc (Nat.le_refl _) _).block w.heap.size (by simp)]
    exact heap_alloc_new _ _
  · have := heap_alloc_new (w.alloc (.cells (rCells R mb) 35)) (.cells (pCells p) 32)
    simpa using this
theorem VR.cells (h : VR R p mb w W9) : (W9.cell? ⟨w.heap.size, 0, none⟩ = some (.int .i64 ((R 0 : Nat) : Int)) ∧ W9.cell? ⟨w.heap.size, 1, none⟩ = some (.int .i64 ((R 1 : Nat) : Int)) ∧ W9.cell? ⟨w.heap.size, 2, none⟩ = some (.int .i64 ((R 2 : Nat) : Int)) ∧ W9.cell? ⟨w.heap.size, 3, none⟩ = some (.int .i64 ((R 3 : Nat) : Int)) ∧ W9.cell? ⟨w.heap.size, 4, none⟩ = some (.map (some mb)) ∧
    W9.cell? ⟨w.heap.size + 1, 0, none⟩ = some (.int .i64 ((p 0 : Nat) : Int)) ∧ W9.cell? ⟨w.heap.size + 1, 1, none⟩ = some (.int .i64 ((p 1 : Nat) : Int)) ∧ W9.cell? ⟨w.heap.size + 1, 2, none⟩ = some (.int .i64 ((p 2 : Nat) : Int)) ∧ W9.cell? ⟨w.heap.size + 1, 3, none⟩ = some (.int .i64 ((p 3 : Nat) : Int))) := by
  have h1 := h.rc
  have h2 := h.st
  unfold rCells at h1
  unfold pCells at h2
  refine ⟨?_, ?_, ?_, ?_, ?_, ?_, ?_, ?_, ?_⟩ <;> simp [World.cell?, h1, h2]
theorem BOwn.map {v : Value} {B : Nat} {xs : List UInt8} (h : BOwn W9 B v xs) (hg : W9.grownBy W8 (some mb)) (hm : mb < B) : BOwn W8 B v xs := by
  rcases h with ⟨h1, h2⟩
  refine ⟨h1, ?_⟩
  rcases h2 with h3 | ⟨g, cap, cur, e1, e2, e3, e4⟩
  · exact .inl h3
  · exact .inr ⟨g, cap, cur, e1, e2, (hg.block g (Array.getElem?_eq_some_iff.1 e3).1 (by intro he; injection he with he; omega)).trans e3, e4⟩
end
def lett (l : List Nat) : List UInt8 := l.map fun c => UInt8.ofNat (97 + c)
end Go.Proofs.Ytmfcknlpbliehaa

/- votesOfRank: the votes with a rank. -/
namespace Go.Proofs.Ytmfcknlpbliehaa
open Go.RowKit
set_option linter.unusedVariables false
def sLen9 : Value → Nat | .slice _ n _ => n | _ => 0
theorem uw_succ (R p : Nat → Nat) (n k : Nat) : uw R (n + 1) p k = ci R p k :: uw R n (up p (ci R p k)) (k - byS R p (ci R p k)) := rfl
theorem lett_cons (c : Nat) (l : List Nat) : lett (c :: l) = UInt8.ofNat (97 + c) :: lett l := rfl
theorem wpList_store_rowN {ops : Array Oper} {rest : List Oper} {o : Oper} {a : Act} {w : World} {Q : Exit → Act → World → Prop} (hgd : o.guard = none) (ty : TypeId) (x y : Operand) (ho : o.op = .store ty x y)
    (hd : o.dst = none) (g : Nat) (cells : Array Value) (hx : a.eval x = .pointer (some ⟨g, 0, none⟩)) (hy : a.eval y = .agg cells)
    (t : TypeId) (old : Array Value) (hg : w.heap[g]? = some (.cells old t (0, 0))) (hi : (Try.prog.info? ty).map (·.size) = some cells.size)
    (hold : old.size = cells.size) (h1 : cells.all (·.oneCell') = true)
    (h : wpList Try.prog ops Q rest a (w.setRow g cells)) : wpList Try.prog ops Q (o :: rest) a w :=
  wpList_store_row hgd ty x y ho g cells hx hy t old hg hi hold h1 (by rw [hd]; exact h)
theorem BOwn.setR {W9 : World} {B g : Nat} {v : Value} {xs : List UInt8} (h : BOwn W9 B v xs) (hg : g < B) (cs : Array Value) : BOwn (W9.setRow g cs) B v xs := by
  rcases h with ⟨h1, h2⟩
  refine ⟨h1, ?_⟩
  rcases h2 with h3 | ⟨k, cap, cur, e1, e2, e3, e4⟩
  · exact .inl h3
  · exact .inr ⟨k, cap, cur, e1, e2, (setRow_other _ _ _ _ (by omega)).trans e3, e4⟩
theorem BOwn.slen {W9 : World} {B : Nat} {v : Value} {xs : List UInt8} (h : BOwn W9 B v xs) : sLen9 v = xs.length := by
  obtain ⟨A, c, rfl⟩ := h.shape
  rfl
set_option maxRecDepth 100000 in
set_option maxHeartbeats 4000000 in
theorem votesOfRank_any (R : Nat → Nat) (mb k0 : Nat) (w : World) (hR : sm R) (hR16 : tot R ≤ 16) (h : MapW w mb (W R)) (hk0 : k0 < W R (fun _ => 0)) :
    Calls Try.prog 16 #[raceV R mb, .int .i64 (k0 : Int)] w fun e w' => e = .returned (.string (strOf (lett (uw R (tot R) (fun _ => 0) k0)))) ∧ MapW w' mb (W R) ∧ w.grownBy w' (some mb) := by
  have HS0 := Lib.hid (VR.start (p := fun _ => 0) h)
  have HB : Hid (∀ (p : Nat → Nat) (i : Nat) (W9 : World), Ok R p → i < 4 → VR R p mb w W9 → Calls Try.prog 23 #[.agg #[.int .i64 ((R 0 : Nat) : Int), .int .i64 ((R 1 : Nat) : Int), .int .i64 ((R 2 : Nat) : Int), .int .i64 ((R 3 : Nat) : Int), .map (some mb)], .agg #[.int .i64 ((p 0 : Nat) : Int), .int .i64 ((p 1 : Nat) : Int), .int .i64 ((p 2 : Nat) : Int), .int .i64 ((p 3 : Nat) : Int)], .int .i64 (i : Int)] W9 fun e w' => e = .returned (.int .i64 ((byW R p i : Nat) : Int)) ∧ VR R p mb w w' ∧ W9.grownBy w' (some mb)) := Lib.hid fun p i W9 hp hi hW => (waysBy_ok R p i mb W9 hi hR hR16 hp hW.mp).mono fun _ _ ⟨h1, h2, h3⟩ => ⟨h1, hW.step h2 h3, h3⟩
  have HT : Hid (∀ (p : Nat → Nat) (i : Nat) (W9 : World), Ok R p → i < 4 → VR R p mb w W9 → Calls Try.prog 24 #[.agg #[.int .i64 ((p 0 : Nat) : Int), .int .i64 ((p 1 : Nat) : Int), .int .i64 ((p 2 : Nat) : Int), .int .i64 ((p 3 : Nat) : Int)], .int .i64 (i : Int)] W9 fun e w' => e = .returned (stA (up p i)) ∧ VR R p mb w w' ∧ Below W9.heap.size W9 w') := Lib.hid fun p i W9 hp hi hW => (with_any p i hi (Nat.le_trans (hp.le i hi) (hR i hi)) W9).mono fun _ _ ⟨h1, h2⟩ => ⟨h1, hW.below h2, h2⟩
  have HBB : Hid (∀ p i, byW R p i ≤ 4294967296) := Lib.hid fun p i => byW_bd hR16 i
  have HWB : Hid (∀ p, W R p ≤ 4294967296) := Lib.hid fun p => W_bd hR16
  have HMB := Lib.hid h.lt
  obtain ⟨T, hT⟩ : ∃ T, lett (uw R (tot R) (fun _ => 0) k0) = T := ⟨_, rfl⟩
  rw [hT]
  have HT0 := Lib.hid hT
  have hk1 := HWB.out (fun _ => 0)
  clear hT h
  unfold raceV
  go_enter Try.func16, Try.ntmps16
  go_wp2
  go_loopw [1, 5] (fun r v wr => ∃ (n : Nat) (p : Nat → Nat) (k : Nat) (F : List UInt8), Ok R p ∧ tot p + n = tot R ∧ k < W R p ∧ r = .int .i64 (k : Int) ∧ F.length = tot p ∧ F ++ lett (uw R n p k) = T ∧ BOwn wr (w.heap.size + 2) v F ∧ VR R p mb w wr) (fun _ v _ => 17 - sLen9 v)
  case atStart => exact ⟨tot R, fun _ => 0, k0, [], Ok.zero, by simp [tot], hk0, rfl, rfl, HT0.out, BOwn.nil _ _, HS0.out⟩
  case round =>
    obtain ⟨n, p, k, F, hok, hn, hk, rfl, hF, hT, hrow, hV⟩ := hrel
    clear HS0 HT0 hk0 hk1
    obtain ⟨z0, z1, z2, z3, z4, z5, z6, z7, z8⟩ := hV.cells
    by_cases hs : same R p
    · have hq := (eq_same R p).trans (decide_eq_true hs)
      have hn0 : n = 0 := by have := hok.same_iff.1 hs; omega
      subst hn0
      have HTE : Hid (F = T) := Lib.hid (by rw [← hT]; simp [uw, lett])
      have hcv := run_str_own hrow
      have HV := Lib.hid hV
      clear hrow hT hs hok hV HB HT HBB HWB
      go_wp2
      go_ret
      exact ⟨congrArg (fun x => Ending.returned (.string (strOf x))) HTE.out, HV.out.mp, HV.out.gr⟩
    · have hq := (eq_same R p).trans (decide_eq_false hs)
      have hst := step_ok hok hk hs
      have hne : ¬ tot p = tot R := fun e => hs (hok.same_iff.2 e)
      have hn1 : ∃ m, n = m + 1 := ⟨n - 1, by omega⟩
      obtain ⟨m, rfl⟩ := hn1
      have HV := Lib.hid hV
      have HROW := Lib.hid hrow
      have HOK := Lib.hid hok
      have HST := Lib.hid hst
      have HTE := Lib.hid hT
      have HF := Lib.hid hF
      have HKK : Hid (k ≤ 4294967296) := Lib.hid (by have := HWB.out p; omega)
      have HN := Lib.hid hn
      clear hrow hT hs hst hV hF hok hn hne
      go_wp2
      clear z0 z1 z2 z3 z4 z5 z6 z7 z8 hq
      go_loopw [1, 7] (fun r q wr => ∃ i : Nat, i ≤ ci R p k ∧ q = .int .i64 (i : Int) ∧ r = .int .i64 ((k - byS R p i : Nat) : Int) ∧ VR R p mb w wr ∧ BOwn wr (w.heap.size + 2) u5 F) (fun _ q _ => 4 - (intOf q).toNat)
      case atStart => exact ⟨0, Nat.zero_le _, rfl, rfl, HV.out, HROW.out⟩
      case round =>
        obtain ⟨i, hi, rfl, rfl, hV, hrow⟩ := hrel
        clear HV HROW
        obtain ⟨h4, hno, hok2, hle, hlt2, htot⟩ := HST.out
        have hc4 := ci_lt R p k
        have hi4 : i < 4 := by omega
        have hbs : byS R p (i + 1) = byS R p i + byW R p i := rfl
        have hbb := HBB.out p i
        have HBI : Hid (∀ W9, VR R p mb w W9 → Calls Try.prog 23 #[.agg #[.int .i64 ((R 0 : Nat) : Int), .int .i64 ((R 1 : Nat) : Int), .int .i64 ((R 2 : Nat) : Int), .int .i64 ((R 3 : Nat) : Int), .map (some mb)], .agg #[.int .i64 ((p 0 : Nat) : Int), .int .i64 ((p 1 : Nat) : Int), .int .i64 ((p 2 : Nat) : Int), .int .i64 ((p 3 : Nat) : Int)], .int .i64 (i : Int)] W9 fun e w' => e = .returned (.int .i64 ((byW R p i : Nat) : Int)) ∧ VR R p mb w w' ∧ W9.grownBy w' (some mb)) := Lib.hid fun W9 hW => HB.out p i W9 HOK.out hi4 hW
        have HROW := Lib.hid hrow
        have HV := Lib.hid hV
        have HKK1 := HKK.out
        obtain ⟨z0, z1, z2, z3, z4, z5, z6, z7, z8⟩ := hV.cells
        clear hrow hV HB HBB HWB
        by_cases hlt : i < ci R p k
        · have hge : byS R p (i + 1) ≤ k := Nat.le_trans (by have := byS_mono R p (i + 1) (ci R p k - (i + 1)); rwa [show i + 1 + (ci R p k - (i + 1)) = ci R p k by omega] at this) hle
          have HE : Hid (((k - byS R p (i + 1) : Nat) : Int) = ((k - byS R p i : Nat) : Int) - ((byW R p i : Nat) : Int)) := Lib.hid (by omega)
          have q1 : decide (((byW R p i : Nat) : Int) ≤ ((k - byS R p i : Nat) : Int)) = true := decide_eq_true (by omega)
          have m1 : 0 ≤ ((k - byS R p i : Nat) : Int) - ((byW R p i : Nat) : Int) := by omega
          have m2 : ((k - byS R p i : Nat) : Int) ≤ 4294967296 := by omega
          clear hbs hge hle hlt2 h4 hno hok2 htot HST
          obtain ⟨K1, hK1⟩ : ∃ K1 : Int, ((k - byS R p i : Nat) : Int) = K1 := ⟨_, rfl⟩
          rw [hK1] at HE q1 m1 m2 ⊢
          clear hK1
          generalize byW R p i = B0 at *
          go_wp2_with (first | (go_at_call 23; refine (HBI.out _ (by first | exact HV.out | assumption)).mono ?_; rintro e w' ⟨rfl, hV2, hg2⟩; replace HROW := Lib.hid (HROW.out.map hg2 (by have := HMB.out; omega)); clear z0 z1 z2 z3 z4 z5 z6 z7 z8; obtain ⟨z0, z1, z2, z3, z4, z5, z6, z7, z8⟩ := hV2.cells))
          go_roundw
          case rel => exact ⟨i + 1, by omega, by go_num, by rw [HE.out], hV2, HROW.out⟩
          first | (simp [intOf]; done) | (simp [intOf]; omega)
        · obtain rfl : i = ci R p k := by omega
          have q1 : decide (((byW R p (ci R p k) : Nat) : Int) ≤ ((k - byS R p (ci R p k) : Nat) : Int)) = false := decide_eq_false (by have := ci_at h4; omega)
          have HTE2 : Hid ((F ++ [UInt8.ofNat (97 + ci R p k)]) ++ lett (uw R m (up p (ci R p k)) (k - byS R p (ci R p k))) = T) := Lib.hid (by rw [← HTE.out, uw_succ, lett_cons, List.append_assoc]; rfl)
          have HOK2 := Lib.hid hok2
          have HLT2 := Lib.hid hlt2
          have HTOT := Lib.hid htot
          have HFL : Hid (F.length ≤ 16) := Lib.hid (by rw [HF.out]; have := HN.out; omega)
          clear hbs hle hlt2 h4 hno hok2 htot HST HTE hlt
          obtain ⟨K1, hK1⟩ : ∃ K1 : Int, ((k - byS R p (ci R p k) : Nat) : Int) = K1 := ⟨_, rfl⟩
          have HK1 := Lib.hid hK1
          rw [hK1] at q1 ⊢
          clear hK1 hi
          generalize hci : ci R p k = i at *
          generalize byW R p i = B0 at *
          have HCI := Lib.hid hci
          have hi3 : i = 0 ∨ i = 1 ∨ i = 2 ∨ i = 3 := by omega
          clear hci
          have HTI : Hid (∀ W9, VR R p mb w W9 → Calls Try.prog 24 #[.agg #[.int .i64 ((p 0 : Nat) : Int), .int .i64 ((p 1 : Nat) : Int), .int .i64 ((p 2 : Nat) : Int), .int .i64 ((p 3 : Nat) : Int)], .int .i64 (i : Int)] W9 fun e w' => e = .returned (.agg (pCells (up p i))) ∧ VR R p mb w w' ∧ Below W9.heap.size W9 w') := Lib.hid fun W9 hW => HT.out p i W9 HOK.out hi4 hW
          clear HT
          rcases hi3 with hi3 | hi3 | hi3 | hi3
          · subst hi3
            go_wp2_with (first
              | (go_at_call 23; refine (HBI.out _ (by assumption)).mono ?_; rintro e w5 ⟨rfl, hV2, hg2⟩; replace HROW := Lib.hid (HROW.out.map hg2 (by have := HMB.out; omega)); replace HV := Lib.hid hV2; clear hg2 hV2 z0 z1 z2 z3 z4 z5 z6 z7 z8; have hz5 := HV.out.sz)
              | (at_builtin; refine wpList_pushB 97 (.tmp 26) (.tmp 29) rfl rfl (w.heap.size + 2) _ F rfl HROW.out rfl (by have := HFL.out; omega) hz5 ?_; intro v' w6 hrow' hg' hat'; have HV6 := Lib.hid (HV.out.own hg' (fun j hj => (HROW.out.blk j hj).1)); clear hg' hat' hz5; obtain ⟨z0, z1, z2, z3, z4, z5, z6, z7, z8⟩ := HV6.out.cells)
              | (go_at_call 24; refine (HTI.out _ HV6.out).mono ?_; rintro e w7 ⟨rfl, hV7, hb7⟩; replace hrow' := hrow'.below hb7; clear z0 z1 z2 z3 z4 z5 z6 z7 z8 hb7)
              | (refine wpList_store_rowN rfl 32 (.tmp 6) (.tmp 33) rfl rfl (w.heap.size + 1) (pCells (up p 0)) rfl rfl 32 _ hV7.st stSz rfl (by simp [pCells, Value.oneCell']) ?_))
            go_roundw
            case rel =>
              exact ⟨m, up p 0, k - byS R p 0, F ++ [97], HOK2.out, by rw [HTOT.out]; have := HN.out; omega, HLT2.out, by rw [HK1.out], by rw [HTOT.out, List.length_append, HF.out]; rfl, HTE2.out, hrow'.setR (by omega) _, hV7.set _⟩
            rw [HROW.out.slen, hrow'.slen, List.length_append]
            have := HFL.out
            show _ < _
            simp
            omega
          · subst hi3
            go_wp2_with (first
              | (go_at_call 23; refine (HBI.out _ (by assumption)).mono ?_; rintro e w5 ⟨rfl, hV2, hg2⟩; replace HROW := Lib.hid (HROW.out.map hg2 (by have := HMB.out; omega)); replace HV := Lib.hid hV2; clear hg2 hV2 z0 z1 z2 z3 z4 z5 z6 z7 z8; have hz5 := HV.out.sz)
              | (at_builtin; refine wpList_pushB 98 (.tmp 26) (.tmp 29) rfl rfl (w.heap.size + 2) _ F rfl HROW.out rfl (by have := HFL.out; omega) hz5 ?_; intro v' w6 hrow' hg' hat'; have HV6 := Lib.hid (HV.out.own hg' (fun j hj => (HROW.out.blk j hj).1)); clear hg' hat' hz5; obtain ⟨z0, z1, z2, z3, z4, z5, z6, z7, z8⟩ := HV6.out.cells)
              | (go_at_call 24; refine (HTI.out _ HV6.out).mono ?_; rintro e w7 ⟨rfl, hV7, hb7⟩; replace hrow' := hrow'.below hb7; clear z0 z1 z2 z3 z4 z5 z6 z7 z8 hb7)
              | (refine wpList_store_rowN rfl 32 (.tmp 6) (.tmp 33) rfl rfl (w.heap.size + 1) (pCells (up p 1)) rfl rfl 32 _ hV7.st stSz rfl (by simp [pCells, Value.oneCell']) ?_))
            go_roundw
            case rel => exact ⟨m, up p 1, k - byS R p 1, F ++ [98], HOK2.out, by rw [HTOT.out]; have := HN.out; omega, HLT2.out, by rw [HK1.out], by rw [HTOT.out, List.length_append, HF.out]; rfl, HTE2.out, hrow'.setR (by omega) _, hV7.set _⟩
            rw [HROW.out.slen, hrow'.slen, List.length_append]
            have := HFL.out
            show _ < _
            simp
            omega
          · subst hi3
            go_wp2_with (first
              | (go_at_call 23; refine (HBI.out _ (by assumption)).mono ?_; rintro e w5 ⟨rfl, hV2, hg2⟩; replace HROW := Lib.hid (HROW.out.map hg2 (by have := HMB.out; omega)); replace HV := Lib.hid hV2; clear hg2 hV2 z0 z1 z2 z3 z4 z5 z6 z7 z8; have hz5 := HV.out.sz)
              | (at_builtin; refine wpList_pushB 99 (.tmp 26) (.tmp 29) rfl rfl (w.heap.size + 2) _ F rfl HROW.out rfl (by have := HFL.out; omega) hz5 ?_; intro v' w6 hrow' hg' hat'; have HV6 := Lib.hid (HV.out.own hg' (fun j hj => (HROW.out.blk j hj).1)); clear hg' hat' hz5; obtain ⟨z0, z1, z2, z3, z4, z5, z6, z7, z8⟩ := HV6.out.cells)
              | (go_at_call 24; refine (HTI.out _ HV6.out).mono ?_; rintro e w7 ⟨rfl, hV7, hb7⟩; replace hrow' := hrow'.below hb7; clear z0 z1 z2 z3 z4 z5 z6 z7 z8 hb7)
              | (refine wpList_store_rowN rfl 32 (.tmp 6) (.tmp 33) rfl rfl (w.heap.size + 1) (pCells (up p 2)) rfl rfl 32 _ hV7.st stSz rfl (by simp [pCells, Value.oneCell']) ?_))
            go_roundw
            case rel => exact ⟨m, up p 2, k - byS R p 2, F ++ [99], HOK2.out, by rw [HTOT.out]; have := HN.out; omega, HLT2.out, by rw [HK1.out], by rw [HTOT.out, List.length_append, HF.out]; rfl, HTE2.out, hrow'.setR (by omega) _, hV7.set _⟩
            rw [HROW.out.slen, hrow'.slen, List.length_append]
            have := HFL.out
            show _ < _
            simp
            omega
          · subst hi3
            go_wp2_with (first
              | (go_at_call 23; refine (HBI.out _ (by assumption)).mono ?_; rintro e w5 ⟨rfl, hV2, hg2⟩; replace HROW := Lib.hid (HROW.out.map hg2 (by have := HMB.out; omega)); replace HV := Lib.hid hV2; clear hg2 hV2 z0 z1 z2 z3 z4 z5 z6 z7 z8; have hz5 := HV.out.sz)
              | (at_builtin; refine wpList_pushB 100 (.tmp 26) (.tmp 29) rfl rfl (w.heap.size + 2) _ F rfl HROW.out rfl (by have := HFL.out; omega) hz5 ?_; intro v' w6 hrow' hg' hat'; have HV6 := Lib.hid (HV.out.own hg' (fun j hj => (HROW.out.blk j hj).1)); clear hg' hat' hz5; obtain ⟨z0, z1, z2, z3, z4, z5, z6, z7, z8⟩ := HV6.out.cells)
              | (go_at_call 24; refine (HTI.out _ HV6.out).mono ?_; rintro e w7 ⟨rfl, hV7, hb7⟩; replace hrow' := hrow'.below hb7; clear z0 z1 z2 z3 z4 z5 z6 z7 z8 hb7)
              | (refine wpList_store_rowN rfl 32 (.tmp 6) (.tmp 33) rfl rfl (w.heap.size + 1) (pCells (up p 3)) rfl rfl 32 _ hV7.st stSz rfl (by simp [pCells, Value.oneCell']) ?_))
            go_roundw
            case rel => exact ⟨m, up p 3, k - byS R p 3, F ++ [100], HOK2.out, by rw [HTOT.out]; have := HN.out; omega, HLT2.out, by rw [HK1.out], by rw [HTOT.out, List.length_append, HF.out]; rfl, HTE2.out, hrow'.setR (by omega) _, hV7.set _⟩
            rw [HROW.out.slen, hrow'.slen, List.length_append]
            have := HFL.out
            show _ < _
            simp
            omega
end Go.Proofs.Ytmfcknlpbliehaa
