/- walkForest with the function CLO handed over: the events of the walk, one after the other. -/
import Derived.Test.YtgajknnfmnnfeaaOwn
import Derived.Test.YtgajknnfmnnfeaaForMath
import Derived.Laws.EntriesVeiled
namespace Go.Proofs.Ytgajknnfmnnfeaa
open Go.RowKit
set_option linter.unusedVariables false
/-- nothing turned among the blocks below B, and among the four of the walk -/
structure OnlyT (L B : Nat) (w w' : World) : Prop where
  os : w'.os = w.os
  tape : w'.tape = w.tape
  output : w'.output = w.output
  size : w.heap.size ≤ w'.heap.size
  low : ∀ k, k < L → w'.heap[k]? = w.heap[k]?
  box : ∀ k, B + 2 ≤ k → k < B + 6 → k ≠ B + 4 → w'.heap[k]? = w.heap[k]?
theorem OnlyT.refl (L B : Nat) (w : World) : OnlyT L B w w := ⟨rfl, rfl, rfl, Nat.le_refl _, fun _ _ => rfl, fun _ _ _ _ => rfl⟩
theorem OnlyT.trans {L B : Nat} {a b c : World} (h : OnlyT L B a b) (k : OnlyT L B b c) : OnlyT L B a c :=
  ⟨k.os.trans h.os, k.tape.trans h.tape, k.output.trans h.output, Nat.le_trans h.size k.size, fun i hi => (k.low i hi).trans (h.low i hi), fun i h1 h2 h3 => (k.box i h1 h2 h3).trans (h.box i h1 h2 h3)⟩
theorem cell_sameT {w w' : World} {g j : Nat} (h : w'.heap[g]? = w.heap[g]?) : w'.cell? ⟨g, j, none⟩ = w.cell? ⟨g, j, none⟩ := World.cell?_of_block (a := ⟨g, j, none⟩) h
theorem frozen_sameT {w w' : World} {g j : Nat} (h : w'.heap[g]? = w.heap[g]?) : w'.frozen? ⟨g, j, none⟩ = w.frozen? ⟨g, j, none⟩ := World.frozen?_of_block (a := ⟨g, j, none⟩) h
abbrev doneVT (B : Nat) : Value := .func (.func 98) #[] #[.pointer (some ⟨B + 1, 0, none⟩), .pointer (some ⟨B, 0, none⟩)]
abbrev walkVT (B : Nat) : Value := .func (.func 99) #[] #[.pointer (some ⟨B + 4, 0, none⟩), .pointer (some ⟨B + 2, 0, none⟩), .pointer (some ⟨B + 5, 0, none⟩), .pointer (some ⟨B + 3, 0, none⟩)]
/-- the walk's own variables: the list, the function handed over, the next node, the walk itself -/
structure FrT (L B g o cap : Nat) (xs : List Int) (w : World) (i : Nat) : Prop where
  size : B + 6 ≤ w.heap.size
  list : w.cell? ⟨B + 2, 0, none⟩ = some (.slice (some ⟨g, o, none⟩) xs.length cap)
  done : w.cell? ⟨B + 3, 0, none⟩ = some (doneVT B)
  next : w.cell? ⟨B + 4, 0, none⟩ = some (.int .i64 (i : Int))
  nfree : w.frozen? ⟨B + 4, 0, none⟩ = false
  walk : w.cell? ⟨B + 5, 0, none⟩ = some (walkVT B)
  low : g < L ∧ L ≤ B
  cells : ∀ j, j < xs.length → w.cell? ⟨g, o + j, none⟩ = some (.int .i64 (xs.getD j 0))
theorem FrT.only {L B g o cap : Nat} {xs : List Int} {w w' : World} {i : Nat} (h : FrT L B g o cap xs w i) (k : OnlyT L B w w') (k4 : w'.heap[B + 4]? = w.heap[B + 4]?) : FrT L B g o cap xs w' i :=
  ⟨Nat.le_trans h.size k.size, (cell_sameT (k.box _ (by omega) (by omega) (by omega))).trans h.list, (cell_sameT (k.box _ (by omega) (by omega) (by omega))).trans h.done,
    (cell_sameT k4).trans h.next, (frozen_sameT k4).trans h.nfree, (cell_sameT (k.box _ (by omega) (by omega) (by omega))).trans h.walk, h.low,
    fun j hj => (cell_sameT (k.low _ h.low.1)).trans (h.cells j hj)⟩
theorem setNextT {L B : Nat} (hLB : L ≤ B) (w : World) (v : Value) : OnlyT L B w (w.setCell ⟨B + 4, 0, none⟩ v) :=
  ⟨rfl, rfl, rfl, by simp [World.setCell], fun k hk => Below.heap_setCell _ _ _ _ (by simp; omega), fun k h1 h2 h3 => Below.heap_setCell _ _ _ _ (by simp; omega)⟩
theorem FrT.set {L B g o cap : Nat} {xs : List Int} {w : World} {i : Nat} (h : FrT L B g o cap xs w i) (j : Nat) : FrT L B g o cap xs (w.setCell ⟨B + 4, 0, none⟩ (.int .i64 (j : Int))) j := by
  have k := setNextT (B := B) h.low.2 w (.int .i64 (j : Int))
  exact ⟨Nat.le_trans h.size k.size, (cell_sameT (k.box _ (by omega) (by omega) (by omega))).trans h.list, (cell_sameT (k.box _ (by omega) (by omega) (by omega))).trans h.done,
    World.cell?_setCell_same w ⟨B + 4, 0, none⟩ _ h.next, by rw [World.frozen?_setCell]; exact h.nfree, (cell_sameT (k.box _ (by omega) (by omega) (by omega))).trans h.walk, h.low,
    fun j hj => (cell_sameT (k.low _ h.low.1)).trans (h.cells j hj)⟩
abbrev UnitV : Value := .tuple #[]
set_option maxHeartbeats 1600000 in
theorem walkTreeT (L B g o cap : Nat) (xs : List Int) (hl : xs.length ≤ 1048576) (Inv : World → List (Nat × Int × Nat) → Prop)
    (HD : Hid (∀ w es (n b : Nat) (p : Int), n < b → b ≤ xs.length → es.length ≤ b → B + 6 ≤ w.heap.size → Inv w es → Calls Try.prog 98 #[.int .i64 (n : Int), .int .i64 p, .int .i64 (b : Int), .pointer (some ⟨B + 1, 0, none⟩), .pointer (some ⟨B, 0, none⟩)] w fun e w' => e = .returned UnitV ∧ Inv w' (es ++ [(n, p, b)]) ∧ OnlyT L B w w' ∧ w'.heap[B + 4]? = w.heap[B + 4]?))
    (HS : Hid (∀ w es v, Inv w es → Inv (w.setCell ⟨B + 4, 0, none⟩ v) es)) :
    ∀ (m : Nat) (c : For), c.size < m → ∀ (a b : List Int) (p : Int) (es : List (Nat × Int × Nat)) (w : World), xs = a ++ ((c.cnt : Int) :: c.enc) ++ b → FrT L B g o cap xs w a.length → Inv w es → es.length ≤ a.length →
      Calls Try.prog 99 #[.int .i64 p, .pointer (some ⟨B + 4, 0, none⟩), .pointer (some ⟨B + 2, 0, none⟩), .pointer (some ⟨B + 5, 0, none⟩), .pointer (some ⟨B + 3, 0, none⟩)] w
        fun e w' => e = .returned UnitV ∧ FrT L B g o cap xs w' (a.length + 1 + c.size) ∧ Inv w' (es ++ c.evs (a.length + 1) (a.length : Int) ++ [(a.length, p, a.length + 1 + c.size)]) ∧ OnlyT L B w w' := by
  intro m
  induction m with
  | zero => exact fun c hc => absurd hc (by omega)
  | succ m ih =>
  intro c hc a b p es w hx hf hi hes
  have IH := Lib.hid ih
  clear ih
  have f1 := hf.next
  have f2 := hf.nfree
  have hf2 := hf.set (a.length + 1)
  have hi2 := HS.out w es (.int .i64 ((a.length + 1 : Nat) : Int)) hi
  have g1 := hf2.list
  have hal : a.length < xs.length := by rw [hx]; simp
  have hbl : a.length + 1 + c.size ≤ xs.length := by rw [hx]; simp [For.enc_length]; omega
  have g2 := hf2.cells a.length hal
  have hxa : xs.getD a.length 0 = (c.cnt : Int) := by rw [hx]; simp
  rw [hxa] at g2
  have ho := setNextT (B := B) hf.low.2 w (.int .i64 ((a.length + 1 : Nat) : Int))
  have hcc := For.cnt_le c
  have HX := Lib.hid hx
  rw [Int.natCast_add, Int.natCast_one] at g1 g2 hf2 hi2 ho
  have HF := Lib.hid hf2
  have HI := Lib.hid hi2
  have HO := Lib.hid ho
  clear hf hf2 hi hi2 ho hx hxa
  go_enter Try.func99, Try.ntmps99
  go_wp2_with fail
  go_loopw [14] (fun i wr => ∃ (k j : Nat) (r : For) (a' : List Int) (es' : List (Nat × Int × Nat)), i = .int .i64 (k : Int) ∧ r.cnt + k = c.cnt ∧ Hid (xs = a' ++ r.enc ++ b ∧ a'.length = j ∧ j + r.size = a.length + 1 + c.size ∧ es' ++ r.evs j a.length = es ++ c.evs (a.length + 1) a.length ∧ a.length + 1 ≤ j) ∧ FrT L B g o cap xs wr j ∧ Inv wr es' ∧ OnlyT L B w wr) (fun i _ => c.cnt - (intOf i).toNat)
  case atStart => exact ⟨0, a.length + 1, c, a ++ [(c.cnt : Int)], es, rfl, rfl, Lib.hid ⟨by rw [HX.out]; simp, by simp, rfl, rfl, Nat.le_refl _⟩, HF.out, HI.out, HO.out⟩
  case round =>
    obtain ⟨k, j, r, a', es', rfl, hrk, HR, hfr, hin, hon⟩ := hrel
    clear f1 f2 g1 g2
    have hw := hfr.walk
    have hd := hfr.done
    have hnx := hfr.next
    by_cases hlt : k < c.cnt
    · obtain ⟨c', r', rfl⟩ := For.cnt_pos (f := r) (by omega)
      have HC : Hid (Calls Try.prog 99 #[.int .i64 (a.length : Int), .pointer (some ⟨B + 4, 0, none⟩), .pointer (some ⟨B + 2, 0, none⟩), .pointer (some ⟨B + 5, 0, none⟩), .pointer (some ⟨B + 3, 0, none⟩)] wr
          fun e w' => e = .returned UnitV ∧ FrT L B g o cap xs w' (a'.length + 1 + c'.size) ∧ Inv w' (es' ++ c'.evs (a'.length + 1) (a'.length : Int) ++ [(a'.length, (a.length : Int), a'.length + 1 + c'.size)]) ∧ OnlyT L B wr w') :=
        Lib.hid (IH.out c' (by have := HR.out.2.2.1; have := HR.out.2.2.2.2; rw [For.size] at *; omega) a' (r'.enc ++ b) (a.length : Int) es' wr (by rw [HR.out.1, For.enc]; simp) (by rw [HR.out.2.1]; exact hfr) hin (by have h4 := congrArg List.length HR.out.2.2.2.1; rw [List.length_append, List.length_append, For.evs_length, For.evs_length] at h4; have := HR.out.2.2.1; have := HR.out.2.1; omega))
      have HON := Lib.hid hon
      clear hfr hin hon hd hnx
      go_wp2_with (go_at_call 99; refine HC.out.mono ?_; rintro e w2 ⟨rfl, hfr2, hin2, hon2⟩)
      go_roundw
      case rel =>
        obtain ⟨q1, q2, q3, q4, q5⟩ := HR.out
        refine ⟨k + 1, a'.length + 1 + c'.size, r', a' ++ (c'.cnt : Int) :: c'.enc, _, by go_num, by rw [For.cnt] at hrk; omega, Lib.hid ⟨by rw [q1, For.enc]; simp, by simp [For.enc_length]; omega, by rw [For.size] at q3; omega, ?_, by omega⟩, hfr2, hin2, HON.out.trans hon2⟩
        rw [← q4, For.evs, q2]
        simp
      case measure => first | (simp [intOf]; done) | (simp [intOf]; omega)
    · have hr0 : r = For.nil := For.cnt_zero (by omega)
      subst hr0
      have HD1 := Lib.hid (HD.out wr es' a.length j p (by have := HR.out.2.2.1; rw [For.size] at this; omega) (by have := HR.out.2.2.1; rw [For.size] at this; omega) (by have h4 := congrArg List.length HR.out.2.2.2.1; rw [List.length_append, List.length_append, For.evs_length, For.evs_length] at h4; have := HR.out.2.2.1; rw [For.size] at *; omega) hfr.size hin)
      have HON := Lib.hid hon
      have HFR := Lib.hid hfr
      clear hfr hin hon hw
      go_wp2_with (go_at_call 98; refine HD1.out.mono ?_; rintro e w2 ⟨rfl, hin2, hon2, hk4⟩)
      go_end0
      obtain ⟨q1, q2, q3, q4, q5⟩ := HR.out
      rw [For.size, Nat.add_zero] at q3
      rw [For.evs, List.append_nil] at q4
      rw [← q3, ← q4]
      exact ⟨rfl, HFR.out.only hon2 hk4, hin2, HON.out.trans hon2⟩
theorem startT {L B g o cap : Nat} {xs : List Int} {w : World} (hs : w.heap.size = B + 2) (hg : g < L) (hLB : L ≤ B) (hcells : ∀ j, j < xs.length → w.cell? ⟨g, o + j, none⟩ = some (.int .i64 (xs.getD j 0))) (t1 t2 t3 t4 : TypeId) :
    FrT L B g o cap xs ((((w.alloc (.cells #[.slice (some ⟨g, o, none⟩) xs.length cap] t1)).alloc (.cells #[doneVT B] t2)).alloc (.cells #[.int .i64 0] t3)).alloc (.cells #[walkVT B] t4)) 0 := by
  refine ⟨by simp [hs], ?_, ?_, ?_, ?_, ?_, ⟨hg, hLB⟩, fun j hj => ?_⟩
  · rw [World.cell?_alloc_past _ _ _ (by simp [hs]), World.cell?_alloc_past _ _ _ (by simp [hs]), World.cell?_alloc_past _ _ _ (by simp [hs]), World.cell?_alloc_at _ _ _ _ (by simp [hs])]; rfl
  · rw [World.cell?_alloc_past _ _ _ (by simp [hs]), World.cell?_alloc_past _ _ _ (by simp [hs]), World.cell?_alloc_at _ _ _ _ (by simp [hs])]; rfl
  · rw [World.cell?_alloc_past _ _ _ (by simp [hs]), World.cell?_alloc_at _ _ _ _ (by simp [hs])]; rfl
  · rw [World.frozen?_of_block (a := ⟨B + 4, 0, none⟩) (Below.heap_alloc _ _ _ (by simp [hs])), World.frozen?_alloc_at _ _ _ _ (by simp [hs])]
  · rw [World.cell?_alloc_at _ _ _ _ (by simp [hs])]; rfl
  · rw [World.cell?_alloc_past _ _ _ (by simp [hs]; omega), World.cell?_alloc_past _ _ _ (by simp [hs]; omega), World.cell?_alloc_past _ _ _ (by simp [hs]; omega), World.cell?_alloc_past _ _ _ (by simp [hs]; omega)]
    exact hcells j hj
def nextOf (B : Nat) (w : World) : Nat := (intOf ((w.cell? ⟨B + 4, 0, none⟩).getD (.int .i64 0))).toNat
set_option maxHeartbeats 1600000 in
theorem walkForestT (L B g o cap : Nat) (xs : List Int) (hl : xs.length ≤ 1048576) (Inv : World → List (Nat × Int × Nat) → Prop)
    (HD : Hid (∀ w es (n b : Nat) (p : Int), n < b → b ≤ xs.length → es.length ≤ b → B + 6 ≤ w.heap.size → Inv w es → Calls Try.prog 98 #[.int .i64 (n : Int), .int .i64 p, .int .i64 (b : Int), .pointer (some ⟨B + 1, 0, none⟩), .pointer (some ⟨B, 0, none⟩)] w fun e w' => e = .returned UnitV ∧ Inv w' (es ++ [(n, p, b)]) ∧ OnlyT L B w w' ∧ w'.heap[B + 4]? = w.heap[B + 4]?))
    (HS : Hid (∀ w es v, Inv w es → Inv (w.setCell ⟨B + 4, 0, none⟩ v) es)) (HA : Hid (∀ w es o, Inv w es → Inv (w.alloc o) es))
    (f : For) (hx : xs = f.enc) (w : World) (hs : w.heap.size = B + 2) (hg : g < L) (hLB : L ≤ B) (hcells : ∀ j, j < xs.length → w.cell? ⟨g, o + j, none⟩ = some (.int .i64 (xs.getD j 0))) (hi : Inv w []) :
    Calls Try.prog 71 #[.slice (some ⟨g, o, none⟩) xs.length cap, doneVT B] w fun e w' => e = .returned UnitV ∧ Inv w' (f.evs 0 (-1)) ∧ w'.os = w.os ∧ w'.tape = w.tape ∧ w'.output = w.output ∧ w.heap.size ≤ w'.heap.size ∧ ∀ k, k < L → w'.heap[k]? = w.heap[k]? := by
  have hmf : ∀ (fn : Fn) (first cap : Array Value) (w : World), (Instr.makeFunc fn first cap).run Try.prog w = .ok (.func fn first cap) w := fun _ _ _ _ => rfl
  have HX := Lib.hid hx
  have HC := Lib.hid hcells
  have HI := Lib.hid hi
  clear hx hcells hi
  go_enter Try.func71, Try.ntmps71
  go_wp2_with fail
  simp only [Nat.add_assoc, Nat.reduceAdd]
  have h0 := startT (cap := cap) hs hg hLB HC.out 22 54 3 69
  have hi0 := HA.out _ _ (.cells #[walkVT B] 69) (HA.out _ _ (.cells #[.int .i64 0] 3) (HA.out _ _ (.cells #[doneVT B] 54) (HA.out _ _ (.cells #[.slice (some ⟨g, o, none⟩) xs.length cap] 22) HI.out)))
  have hb0 : Below w.heap.size w ((((w.alloc (.cells #[.slice (some ⟨g, o, none⟩) xs.length cap] 22)).alloc (.cells #[doneVT B] 54)).alloc (.cells #[.int .i64 0] 3)).alloc (.cells #[walkVT B] 69)) :=
    ((((Below.refl _ _).alloc (Nat.le_refl _) _).alloc (by simp) _).alloc (by simp; omega) _).alloc (by simp; omega) _
  generalize ((((w.alloc (.cells #[.slice (some ⟨g, o, none⟩) xs.length cap] 22)).alloc (.cells #[doneVT B] 54)).alloc (.cells #[.int .i64 0] 3)).alloc (.cells #[walkVT B] 69)) = W at *
  go_loopw [] (fun wr => ∃ (j : Nat) (r : For) (a' : List Int) (es' : List (Nat × Int × Nat)), Hid (xs = a' ++ r.enc ∧ a'.length = j ∧ es' ++ r.evs j (-1) = f.evs 0 (-1)) ∧ FrT L B g o cap xs wr j ∧ Inv wr es' ∧ OnlyT L B W wr) (fun wr => xs.length - nextOf B wr)
  case atStart => exact ⟨0, f, [], [], Lib.hid ⟨by rw [HX.out]; rfl, rfl, rfl⟩, h0, hi0, OnlyT.refl _ _ _⟩
  case round =>
    obtain ⟨j, r, a', es', HR, hfr, hin, hon⟩ := hrel
    have hw := hfr.walk
    have hls := hfr.list
    have hnx := hfr.next
    by_cases hlt : j < xs.length
    · obtain ⟨c', r', rfl⟩ := For.cnt_pos (f := r) (fun h => by
        have := For.cnt_zero h
        subst this
        have h1 := HR.out.1
        have h2 := HR.out.2.1
        rw [h1] at hlt
        simp [For.enc] at hlt
        omega)
      have HC2 : Hid (Calls Try.prog 99 #[.int .i64 (-1), .pointer (some ⟨B + 4, 0, none⟩), .pointer (some ⟨B + 2, 0, none⟩), .pointer (some ⟨B + 5, 0, none⟩), .pointer (some ⟨B + 3, 0, none⟩)] wr
          fun e w' => e = .returned UnitV ∧ FrT L B g o cap xs w' (a'.length + 1 + c'.size) ∧ Inv w' (es' ++ c'.evs (a'.length + 1) (a'.length : Int) ++ [(a'.length, -1, a'.length + 1 + c'.size)]) ∧ OnlyT L B wr w') :=
        Lib.hid (walkTreeT L B g o cap xs hl Inv HD HS (c'.size + 1) c' (Nat.lt_succ_self _) a' r'.enc (-1) es' wr (by rw [HR.out.1, For.enc]; simp) (by rw [HR.out.2.1]; exact hfr) hin (by have h4 := congrArg List.length HR.out.2.2; have h5 := congrArg List.length HR.out.1; have h6 := congrArg List.length HX.out; rw [List.length_append, For.evs_length, For.evs_length] at h4; rw [List.length_append, For.enc_length] at h5; rw [For.enc_length] at h6; omega))
      have HON := Lib.hid hon
      have HNX : Hid (nextOf B wr = j) := Lib.hid (by unfold nextOf; rw [hnx]; simp [intOf])
      clear hfr hin hon h0 hi0 hb0
      go_wp2_with (go_at_call 99; refine HC2.out.mono ?_; rintro e w2 ⟨rfl, hfr2, hin2, hon2⟩)
      go_roundw
      case rel =>
        obtain ⟨q1, q2, q4⟩ := HR.out
        refine ⟨a'.length + 1 + c'.size, r', a' ++ (c'.cnt : Int) :: c'.enc, _, Lib.hid ⟨by rw [q1, For.enc]; simp, by simp [For.enc_length]; omega, ?_⟩, hfr2, hin2, HON.out.trans hon2⟩
        rw [← q4, For.evs, q2]
        simp
      case measure =>
        have e2 : nextOf B w2 = a'.length + 1 + c'.size := by unfold nextOf; rw [hfr2.next]; simp [intOf]; omega
        have h2 := HR.out.2.1
        rw [e2, HNX.out]
        omega
    · have hr0 : r = For.nil := by
        refine For.cnt_zero ?_
        have h1 := HR.out.1
        have h2 := HR.out.2.1
        have h3 := For.enc_length r
        have h4 := For.cnt_le r
        rw [h1, List.length_append] at hlt
        omega
      subst hr0
      have HIN := Lib.hid hin
      have HON := Lib.hid hon
      have HB := Lib.hid hb0
      clear hfr hin hon h0 hi0 hw hb0
      go_wp2_with fail
      go_end0
      have q4 := HR.out.2.2
      rw [For.evs, List.append_nil] at q4
      rw [← q4]
      have hb := HB.out
      have ho := HON.out
      exact ⟨rfl, HIN.out, ho.os.trans hb.os, ho.tape.trans hb.tape, ho.output.trans hb.output, Nat.le_trans hb.size ho.size, fun k hk => (ho.low k hk).trans (hb.block k (by omega))⟩
end Go.Proofs.Ytgajknnfmnnfeaa
