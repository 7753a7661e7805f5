/- ColumnVotes: the program. -/
import Derived.Test.YtnlcainfkchieaaDoorVoD4
import Derived.Test.YtnlcainfkchieaaDoorVoCol
namespace Go.Proofs.YtnlcainfkchieaaDoor
open Go.RowKit
set_option linter.unusedVariables false
def cvB (s : ByteArray) (k : Nat) : List UInt8 := cvTo s k ++ List.replicate (s.size - k) 0
theorem cvB_len (s : ByteArray) (k : Nat) (h : k ≤ s.size) : (cvB s k).length = s.size := by unfold cvB; rw [List.length_append, cvTo_len, List.length_replicate]; omega
theorem cvB_zero (s : ByteArray) : cvB s 0 = List.replicate s.size 0 := by unfold cvB; simp [cvTo]
theorem cvB_full (s : ByteArray) : cvB s s.size = cvTo s s.size := by unfold cvB; simp
theorem cvB_set (s : ByteArray) (k : Nat) (h : k < s.size) : (cvB s k).set k (UInt8.ofNat (97 + vc s (cd s k) k)) = cvB s (k + 1) := by
  unfold cvB
  rw [cvTo, show s.size - k = (s.size - (k + 1)) + 1 by omega, List.replicate_succ, List.append_assoc]
  have : k = (cvTo s k).length := (cvTo_len s k).symm
  conv => lhs; arg 2; rw [this]
  rw [List.set_append_right _ _ (Nat.le_refl _), Nat.sub_self]
  rfl
theorem B4.other {b : Nat} {p : Nat → Nat} {W : World} (h : B4 b p W) {a : Addr} (hne : a.block ≠ b) (v : Value) : B4 b p (W.setCell a v) := by
  refine ⟨fun j hj => ?_, fun j hj => ?_, ?_⟩
  · rw [World.cell?_setCell_other W a ⟨b, j, none⟩ _ (fun x => hne (by rw [x]))]
    exact h.cell j hj
  · rw [World.frozen?_setCell]; exact h.free j hj
  · simp [World.setCell]; exact h.lt
theorem BRow.other {w : World} {B g : Nat} {xs : List UInt8} (h : BRow w B g xs) {a : Addr} (hne : a.block ≠ g) (v : Value) : BRow (w.setCell a v) B g xs := by
  refine ⟨h.from_, by simp [World.setCell]; exact h.lt, fun j hj => ?_, fun j hj => ?_⟩
  · rw [World.cell?_setCell_other w a ⟨g, j, none⟩ _ (fun x => hne (by rw [x]))]
    exact h.cell j hj
  · rw [World.frozen?_setCell]; exact h.free j hj
/-- a box of four numbers is written over -/
theorem B4.put {b : Nat} {p : Nat → Nat} {W : World} (h : B4 b p W) (q : Nat → Nat) : B4 b q ((((W.setCell ⟨b, 0, none⟩ (.int .i64 ((q 0 : Nat) : Int))).setCell ⟨b, 1, none⟩ (.int .i64 ((q 1 : Nat) : Int))).setCell ⟨b, 2, none⟩ (.int .i64 ((q 2 : Nat) : Int))).setCell ⟨b, 3, none⟩ (.int .i64 ((q 3 : Nat) : Int))) := by
  have c0 := h.cell 0 (by omega)
  have c1 := h.cell 1 (by omega)
  have c2 := h.cell 2 (by omega)
  have c3 := h.cell 3 (by omega)
  refine ⟨fun j hj => ?_, fun j hj => ?_, by simp [World.setCell]; exact h.lt⟩
  · have hj4 : j = 0 ∨ j = 1 ∨ j = 2 ∨ j = 3 := by omega
    rcases hj4 with rfl | rfl | rfl | rfl <;> simp [go_sem, c0, c1, c2, c3]
  · rw [World.frozen?_setCell, World.frozen?_setCell, World.frozen?_setCell, World.frozen?_setCell]; exact h.free j hj
structure CL (s : ByteArray) (w : World) (lb bb k : Nat) (W : World) : Prop where
  row : BRow W w.heap.size lb (cvB s k)
  box : B4 bb (vp s k) W
  ne : lb ≠ bb
  ge : w.heap.size ≤ bb
  bel : Below w.heap.size w W
theorem CL.below {s : ByteArray} {w W W' : World} {lb bb k : Nat} (h : CL s w lb bb k W) (hb : Below W.heap.size W W') : CL s w lb bb k W' :=
  ⟨h.row.below hb, h.box.below hb, h.ne, h.ge, h.bel.trans (hb.mono h.bel.size)⟩
theorem abcd_get (x : Nat) (h : x < (⟨#[97, 98, 99, 100]⟩ : ByteArray).size) : (⟨#[97, 98, 99, 100]⟩ : ByteArray)[x] = UInt8.ofNat (97 + x) := by
  have h4 : x < 4 := h
  have : x = 0 ∨ x = 1 ∨ x = 2 ∨ x = 3 := by omega
  rcases this with e | e | e | e <;> subst e <;> rfl
theorem CL.letter {s : ByteArray} {w W : World} {lb bb k : Nat} (h : CL s w lb bb k W) (hk : k < s.size) (hx : vc s (cd s k) k < 4) :
    BRow (W.setCell ⟨lb, k, none⟩ (.int .u8 (((⟨#[97, 98, 99, 100]⟩ : ByteArray)[vc s (cd s k) k]'hx).toNat : Int))) w.heap.size lb (cvB s (k + 1)) ∧ B4 bb (vp s k) (W.setCell ⟨lb, k, none⟩ (.int .u8 (((⟨#[97, 98, 99, 100]⟩ : ByteArray)[vc s (cd s k) k]'hx).toNat : Int))) ∧ Below w.heap.size w (W.setCell ⟨lb, k, none⟩ (.int .u8 (((⟨#[97, 98, 99, 100]⟩ : ByteArray)[vc s (cd s k) k]'hx).toNat : Int))) := by
  have h1 := h.row.set k ((⟨#[97, 98, 99, 100]⟩ : ByteArray)[vc s (cd s k) k]'hx) (by rw [cvB_len s k (by omega)]; exact hk)
  have e : (cvB s k).set k ((⟨#[97, 98, 99, 100]⟩ : ByteArray)[vc s (cd s k) k]'hx) = cvB s (k + 1) := by rw [abcd_get, cvB_set s k hk]
  rw [e] at h1
  exact ⟨h1, h.box.other (by exact h.ne) _, h.bel.setCell (p := ⟨lb, k, none⟩) h.row.from_ _⟩
theorem CL.next {s : ByteArray} {w W W' : World} {lb bb k : Nat} (ne : lb ≠ bb) (ge : w.heap.size ≤ bb) (h1 : BRow W w.heap.size lb (cvB s (k + 1))) (h2 : B4 bb (vp s k) W) (h3 : Below w.heap.size w W) (hb : Below W.heap.size W W') :
    CL s w lb bb (k + 1) ((((W'.setCell ⟨bb, 0, none⟩ (.int .i64 ((vp s (k + 1) 0 : Nat) : Int))).setCell ⟨bb, 1, none⟩ (.int .i64 ((vp s (k + 1) 1 : Nat) : Int))).setCell ⟨bb, 2, none⟩ (.int .i64 ((vp s (k + 1) 2 : Nat) : Int))).setCell ⟨bb, 3, none⟩ (.int .i64 ((vp s (k + 1) 3 : Nat) : Int))) :=
  ⟨((((h1.below hb).other (fun e => ne e.symm) _).other (fun e => ne e.symm) _).other (fun e => ne e.symm) _).other (fun e => ne e.symm) _, (h2.below hb).put _, ne, ge,
    ((((h3.trans (hb.mono h3.size)).setCell (p := ⟨bb, 0, none⟩) ge _).setCell (p := ⟨bb, 1, none⟩) ge _).setCell (p := ⟨bb, 2, none⟩) ge _).setCell (p := ⟨bb, 3, none⟩) ge _⟩
set_option maxRecDepth 100000 in
set_option maxHeartbeats 1600000 in
theorem column_ret (s : ByteArray) (w : World) (hs : s.size ≤ maxLen) : Calls Tryd.prog 44 #[.string s] w (Ret w (.tuple #[.string (cvV s), .bool (colB s)])) := by
  obtain ⟨i0, hi, hz0, hz1, hz2⟩ := info_parts bytInfo
  have HO : Hid (∀ w, Calls Tryd.prog 55 #[.string s] w (Ret w (.tuple #[stA (ordP s), .bool (oB s)]))) := Lib.hid fun w => ordRes_any s w hs
  unfold cvV
  unfold stA at HO
  rcases Bool.eq_false_or_eq_true (oB s) with ho | ho
  · have hv := (oB_of ho).1
    have h16 := ((votB_iff s).1 hv).1
    have e : ordP s = vp s s.size := by unfold ordP; rw [if_pos ho]
    rw [ho, e] at HO
    have hx0 : vp s s.size 0 ≤ 16 := by have := vc_le s 0 s.size; show vc s 0 s.size ≤ 16; omega
    by_cases h4 : vc s 0 s.size ≤ 4
    · have HB : colB s = true := by unfold colB; rw [ho, decide_eq_true h4]; rfl
      rw [HB, if_pos rfl]
      have i4 : ¬ (4 : Int) < ((vp s s.size 0 : Nat) : Int) := by show ¬ (4 : Int) < ((vc s 0 s.size : Nat) : Int); omega
      have HLT := Lib.hid (fun k (hk : k < s.size) => col_lt HB hk)
      have HC : Hid (∀ (k : Nat) (h : k < s.size) (w : World), Calls Tryd.prog 50 #[.int .u8 (s[k].toNat : Int)] w fun e w' => e = .returned (.int .i64 ((cd s k : Nat) : Int)) ∧ w = w') := Lib.hid fun k h w => candOf_any s k w hv h
      have HC4 := Lib.hid (fun k h => votB_lt hv k h)
      clear hv ho e HB h4 hx0
      generalize vp s s.size = P at *
      go_enter Tryd.func44, Tryd.ntmps44
      go_wp2_with (first | (go_at_call 55; refine (HO.out _).mono ?_; rintro e w1 ⟨rfl, hb1⟩; have hsz1 := hb1.size) | (refine wpList_make_full _ rfl (.tmp 23) (.tmp 23) 52 rfl w.heap.size 5 i0 (.int .u8 0) 1 Tryd.underlying52 hi hz0 hz1 .i64 .i64 _ _ s.size rfl rfl (by omega) (by omega) (by rw [hz2]; omega) (by unfold maxLen; omega) (by simp; omega) ?_; intro w2 hown1 hgrow1))
      rw [show (w1.alloc (.cells #[.int .i64 ((P 0 : Nat) : Int), .int .i64 ((P 1 : Nat) : Int), .int .i64 ((P 2 : Nat) : Int), .int .i64 ((P 3 : Nat) : Int)] 56)).heap.size = w1.heap.size + 1 by simp] at hown1
      have hrow1 : BOwn w2 w.heap.size (.slice (some ⟨w1.heap.size + 1, 0, none⟩) s.size s.size) (cvB s 0) :=
        BOwn.of_own hown1 (by rw [cvB_len s 0 (by omega)]) (by rw [cvB_zero, madeOne _ rfl]; simp [bv])
      have hg2 : Below w.heap.size w w2 := (hb1.alloc hsz1 _).grown hgrow1 (by simp; omega) (by simp)
      have hrw := BRow.of_own hrow1
      have hCL : CL s w (w1.heap.size + 1) w2.heap.size 0 (w2.alloc (.cells #[.int .i64 0, .int .i64 0, .int .i64 0, .int .i64 0] 56)) :=
        ⟨hrw.below ((Below.refl _ _).alloc (Nat.le_refl _) _), B4.new (p := fun _ => 0) w2 56, by have := hrw.lt; omega, hg2.size, hg2.alloc hg2.size _⟩
      have HCL0 := Lib.hid hCL
      generalize hlb : w1.heap.size + 1 = lb at *
      generalize hbb : w2.heap.size = bb at *
      clear hown1 hgrow1 hrow1 hg2 hrw hCL
      go_loopw [8, 9, 27] (fun q1 q2 i wr => ∃ k : Nat, k ≤ s.size ∧ i = .int .i64 (k : Int) ∧ Hid (CL s w lb bb k wr)) (fun _ _ i _ => s.size - (intOf i).toNat)
      case atStart => exact ⟨0, Nat.zero_le _, rfl, HCL0⟩
      case round =>
        obtain ⟨k, hk, rfl, HL⟩ := hrel
        clear HCL0
        by_cases hlt : k < s.size
        · have hx4 := HLT.out k hlt
          have hc4 := HC4.out k hlt
          have HCK := Lib.hid (HC.out k hlt)
          have hne := HL.out.ne
          have hcell := HL.out.box.cell (cd s k) hc4
          have hl := HL.out.row.cell k (by rw [cvB_len s k hk]; exact hlt)
          have hlf := HL.out.row.free k (by rw [cvB_len s k hk]; exact hlt)
          have hvp : vp s k (cd s k) = vc s (cd s k) k := rfl
          rw [hvp] at hcell
          have c0 := HL.out.box.cell 0 (by omega)
          have c1 := HL.out.box.cell 1 (by omega)
          have c2 := HL.out.box.cell 2 (by omega)
          have c3 := HL.out.box.cell 3 (by omega)
          have HLT2 := Lib.hid (HL.out.letter hlt hx4)
          have HNX := Lib.hid (fun W' (hb : Below _ _ W') => CL.next HL.out.ne HL.out.ge HLT2.out.1 HLT2.out.2.1 HLT2.out.2.2 hb)
          have HBX := Lib.hid HLT2.out.2.1
          have HW : Hid (∀ w, Calls Tryd.prog 68 #[.agg #[.int .i64 ((vp s k 0 : Nat) : Int), .int .i64 ((vp s k 1 : Nat) : Int), .int .i64 ((vp s k 2 : Nat) : Int), .int .i64 ((vp s k 3 : Nat) : Int)], .int .i64 ((cd s k : Nat) : Int)] w (Ret w (.agg #[.int .i64 ((vp s (k + 1) 0 : Nat) : Int), .int .i64 ((vp s (k + 1) 1 : Nat) : Int), .int .i64 ((vp s (k + 1) 2 : Nat) : Int), .int .i64 ((vp s (k + 1) 3 : Nat) : Int)]))) := Lib.hid fun w => by
            have := with_any (vp s k) (cd s k) hc4 (by rw [hvp]; omega) w
            rw [vp_up] at this
            exact this
          clear HLT HC4 HC hvp HLT2
          generalize (cvB s k)[k]'_ = old at *
          go_wp2_with (first | (go_at_call 50; refine (HCK.out _).mono ?_; rintro e w' ⟨rfl, rfl⟩) | (go_at_call 68; refine (HW.out _).mono ?_; rintro e w5 ⟨rfl, hb5⟩; have hB5 := HBX.out.below hb5; have HN5 := Lib.hid (HNX.out _ hb5); clear c0 c1 c2 c3; have c0 := hB5.cell 0 (by omega); have c1 := hB5.cell 1 (by omega); have c2 := hB5.cell 2 (by omega); have c3 := hB5.cell 3 (by omega); have f0 := hB5.free 0 (by omega); have f1 := hB5.free 1 (by omega); have f2 := hB5.free 2 (by omega); have f3 := hB5.free 3 (by omega); clear hB5))
          go_roundw
          case rel => exact ⟨k + 1, by omega, by go_num, HN5⟩
          case measure => first | (simp [intOf]; done) | (simp [intOf]; omega)
        · obtain rfl : k = s.size := by omega
          have hcv := run_str_cells wr lb s.size s.size (cvTo s s.size) (cvTo_len s s.size) (by have := HL.out.row.cell; rw [cvB_full] at this; exact this)
          go_wp2
          go_ret2
          exact ⟨rfl, HL.out.bel⟩
    · have HB : colB s = false := by unfold colB; rw [ho, decide_eq_false h4]; rfl
      rw [HB]
      have i4 : (4 : Int) < ((vp s s.size 0 : Nat) : Int) := by show (4 : Int) < ((vc s 0 s.size : Nat) : Int); omega
      clear hv ho e HB h4 hx0
      generalize vp s s.size = P at *
      go_enter Tryd.func44, Tryd.ntmps44
      go_wp2_with (go_at_call 55; refine (HO.out _).mono ?_; rintro e w1 ⟨rfl, hb1⟩; have hsz1 := hb1.size)
      go_ret2
      exact ⟨rfl, hb1.alloc hsz1 _⟩
  · have HB : colB s = false := by unfold colB; rw [ho]; rfl
    rw [ho] at HO
    rw [HB]
    generalize ordP s = P at *
    go_enter Tryd.func44, Tryd.ntmps44
    go_wp2_with (go_at_call 55; refine (HO.out _).mono ?_; rintro e w1 ⟨rfl, hb1⟩; have hsz1 := hb1.size)
    go_ret2
    exact ⟨rfl, hb1.alloc hsz1 _⟩
end Go.Proofs.YtnlcainfkchieaaDoor
