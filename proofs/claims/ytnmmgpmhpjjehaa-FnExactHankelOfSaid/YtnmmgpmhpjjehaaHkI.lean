/- HankelOf of the program. -/
import Derived.Test.YtnmmgpmhpjjehaaDtI
import Derived.Test.YtnmmgpmhpjjehaaHkS
import Derived.Test.YtnmmgpmhpjjehaaShI
namespace Go.Proofs.Ytnmmgpmhpjjehaa
open Go.RowKit
set_option linter.unusedVariables false
/-- views of a list, each n long -/
def viewS (g o cap n : Nat) (k : Nat) : Value := .slice (some ⟨g, o + k, none⟩) n (cap - k)
def viewL (g o cap n m k : Nat) : List Value := (List.range m).map fun i => if i < k then viewS g o cap n i else .slice none 0 0
theorem viewL_length (g o cap n m k : Nat) : (viewL g o cap n m k).length = m := by simp [viewL]
theorem viewL_zero (g o cap n m : Nat) : List.replicate m (Value.slice none 0 0) = viewL g o cap n m 0 := by
  apply List.ext_getElem
  · simp [viewL]
  · intro i h1 h2
    simp [viewL]
theorem viewL_set (g o cap n m k : Nat) : (viewL g o cap n m k).set k (viewS g o cap n k) = viewL g o cap n m (k + 1) := by
  apply List.ext_getElem
  · simp [viewL]
  · intro i h1 h2
    rw [List.getElem_set]
    simp only [viewL, List.getElem_map, List.getElem_range]
    by_cases e : k = i
    · subst e; rw [if_pos rfl, if_pos (by omega)]
    · rw [if_neg e]
      by_cases h : i < k
      · rw [if_pos h, if_pos (by omega)]
      · rw [if_neg h, if_neg (by omega)]
theorem viewL_get (g o cap n m i : Nat) (h : i < m) : (viewL g o cap n m m).getD i (.slice none 0 0) = viewS g o cap n i := by
  rw [List.getD_eq_getElem?_getD, List.getElem?_eq_getElem (by rw [viewL_length]; exact h)]
  simp [viewL, h]
theorem views_rows {w : World} {B : Nat} {v : Value} {g o cap n : Nat} {ms : List Int} (hv : VRow w B v (viewL g o cap n n n)) (hg : g < w.heap.size) (hc : ∀ j, j < ms.length → w.cell? ⟨g, o + j, none⟩ = some (.int .i64 (ms.getD j 0)))
    (hcap : ms.length ≤ cap ∧ cap ≤ maxLen) (hn : 2 * n ≤ ms.length + 1) : MRows w v (hkR ms n n) := by
  have hlen := hkR_length ms n n
  refine ⟨⟨?_, fun h0 => ?_⟩, fun A m c e => ?_⟩
  · obtain ⟨A, c, e⟩ := hv.shape
    rw [viewL_length] at e
    exact ⟨A, c, by rw [e, hlen]⟩
  · obtain ⟨gv, cv, rfl, hB, hgv, _, _⟩ := hv.form (viewL_length _ _ _ _ _ _) (by omega)
    refine ⟨gv, 0, cv, by rw [hlen], hgv, fun j hj => ?_⟩
    rw [hlen] at hj
    have e := hv.cell (j := j) (by rw [viewL_length]; exact hj)
    rw [viewL_get _ _ _ _ _ _ hj] at e
    refine ⟨viewS g o cap n j, by rw [Nat.zero_add]; exact e, ?_⟩
    rw [hkR_get _ _ _ _ hj]
    exact RInts.part (c := cap) j n (cap - j) hg hc _ rfl (by omega) (by omega) (by omega)
  · rcases hv.2 with ⟨h1, _⟩ | ⟨g1, cap1, cur, h1, _, _, h2, h3, _⟩
    · rw [h1] at e
      injection e with e1 e2 e3
      subst e2 e3
      exact ⟨Nat.le_refl _, by simp [maxLen]⟩
    · rw [h1] at e
      injection e with e1 e2 e3
      subst e2 e3
      exact ⟨h2, h3⟩
theorem hkOk_in (ms : List Int) (n : Int) : hkOk ms n = (((momB ms && allB ms (-10000) 10000) && inB n 0 4) && !decide (((ms.length : Nat) : Int) < 2 * n - 1)) := rfl
set_option maxRecDepth 100000 in
set_option maxHeartbeats 4000000 in
theorem hankelOf_ret (v : Value) (ms : List Int) (n : Int) (w : World) (h : RInts w v ms) (hl : ms.length ≤ 1048576) :
    Calls Try.prog 55 #[v, .int .i64 n] w (Ret w (.tuple #[.int .i64 (hkV ms n), .bool (hkOk ms n)])) := by
  obtain ⟨i0, hi0, hz0, hz1, hz2⟩ := info_parts vecInfo
  have HG := Lib.hid (areMoments_ret v ms w h hl)
  have HA : Hid (∀ w1, Below w.heap.size w w1 → Calls Try.prog 68 #[.int .i64 (-10000), .int .i64 10000, v] w1 fun e w' => e = .returned (.bool (allB ms (-10000) 10000)) ∧ w1 = w') := Lib.hid fun w1 hb => within_any v ms (-10000) 10000 w1 (h.below hb) hl
  have HI := Lib.hid (fun w => lit_within n 0 4 w)
  have tok1 : True := trivial
  have H := Lib.hid h
  obtain ⟨A0, cap, rfl⟩ := h.shape
  have hroom := h.room _ _ _ rfl
  clear h
  rcases Bool.eq_false_or_eq_true (momB ms) with a1 | a1
  case inr =>
    have e1 : hkOk ms n = false := by rw [hkOk_in, a1]; rfl
    have e2 : hkV ms n = 0 := by unfold hkV; rw [e1]; rfl
    rw [e1, e2]
    rw [a1] at HG
    clear e1 e2 a1
    go_enter Try.func55, Try.ntmps55
    go_wp2_with (go_at_call 92; refine HG.out.mono ?_; rintro e w1 ⟨rfl, hb1⟩)
    go_ret2
    exact ⟨rfl, hb1⟩
  rcases Bool.eq_false_or_eq_true (allB ms (-10000) 10000) with a2 | a2
  case inr =>
    have e1 : hkOk ms n = false := by rw [hkOk_in, a1, a2]; rfl
    have e2 : hkV ms n = 0 := by unfold hkV; rw [e1]; rfl
    rw [e1, e2]
    rw [a1] at HG
    rw [a2] at HA
    clear e1 e2 a1 a2
    go_enter Try.func55, Try.ntmps55
    go_wp2_with (first | (go_at_call 92; refine HG.out.mono ?_; rintro e w1 ⟨rfl, hb1⟩) | (go_at_call 68; refine (HA.out _ hb1).mono ?_; rintro e w' ⟨rfl, rfl⟩))
    go_ret2
    exact ⟨rfl, hb1⟩
  rcases Bool.eq_false_or_eq_true (inB n 0 4) with a3 | a3
  case inr =>
    have e1 : hkOk ms n = false := by rw [hkOk_in, a1, a2, a3]; rfl
    have e2 : hkV ms n = 0 := by unfold hkV; rw [e1]; rfl
    rw [e1, e2]
    rw [a1] at HG
    rw [a2] at HA
    rw [a3] at HI
    clear e1 e2 a1 a2 a3
    go_enter Try.func55, Try.ntmps55
    go_wp2_with (first | (go_at_call 92; refine HG.out.mono ?_; rintro e w1 ⟨rfl, hb1⟩) | (have _t := tok1; go_at_call 68; clear _t tok1; refine (HA.out _ hb1).mono ?_; rintro e w' ⟨rfl, rfl⟩) | (go_at_call 68; refine (HI.out _).mono ?_; rintro e w' ⟨rfl, rfl⟩))
    go_ret2
    exact ⟨rfl, hb1.alloc hb1.size _⟩
  have hn := inB_iff a3
  obtain ⟨k, rfl⟩ := Int.eq_ofNat_of_zero_le hn.1
  have hs8 := (momB_of a1).1
  by_cases a4 : ((ms.length : Nat) : Int) < 2 * (k : Int) - 1
  · have e1 : hkOk ms k = false := by rw [hkOk_in, a1, a2, a3, decide_eq_true a4]; rfl
    have e2 : hkV ms k = 0 := by unfold hkV; rw [e1]; rfl
    rw [e1, e2]
    rw [a1] at HG
    rw [a2] at HA
    rw [a3] at HI
    clear e1 e2 a1 a2 a3
    go_enter Try.func55, Try.ntmps55
    go_wp2_with (first | (go_at_call 92; refine HG.out.mono ?_; rintro e w1 ⟨rfl, hb1⟩) | (have _t := tok1; go_at_call 68; clear _t tok1; refine (HA.out _ hb1).mono ?_; rintro e w' ⟨rfl, rfl⟩) | (go_at_call 68; refine (HI.out _).mono ?_; rintro e w' ⟨rfl, rfl⟩))
    go_ret2
    exact ⟨rfl, hb1.alloc hb1.size _⟩
  have e1 : hkOk ms k = true := by rw [hkOk_in, a1, a2, a3, decide_eq_false a4]; rfl
  have e2 : hkV ms k = hkD ms k := by unfold hkV; rw [if_pos e1]; rfl
  have HSQ := Lib.hid (hkR_sq (ms := ms) (n := k) (by omega) (allB_of a2))
  rw [e1, e2]
  rw [a1] at HG
  rw [a2] at HA
  rw [a3] at HI
  clear e1 e2 a1 a2 a3
  obtain ⟨g, o, cc, hv, hg, hcells⟩ := H.out.cells (by omega)
  have hA : A0 = some ⟨g, o, none⟩ := by injection hv
  subst hA
  clear hv
  have HC := Lib.hid hcells
  clear hcells H
  go_enter Try.func55, Try.ntmps55
  go_wp2_with (first
    | (go_at_call 92; refine HG.out.mono ?_; rintro e w1 ⟨rfl, hb1⟩)
    | (have _t := tok1; go_at_call 68; clear _t tok1; refine (HA.out _ hb1).mono ?_; rintro e w' ⟨rfl, rfl⟩)
    | (go_at_call 68; refine (HI.out _).mono ?_; rintro e w' ⟨rfl, rfl⟩)
    | (refine wpList_make_full _ rfl (.tmp 28) (.tmp 28) 86 rfl w.heap.size 40 i0 (.slice none 0 0) 1 Try.underlying86 hi0 hz0 hz1 .i64 .i64 _ _ k rfl rfl (by omega) (by omega) (by rw [hz2]; omega) (by unfold maxLen; omega) (by have := hb1.size; simp; omega) ?_; intro w2 hown2 hgrow2))
  obtain ⟨gs, hgs⟩ : ∃ gs, gs = w1.heap.size + 1 := ⟨_, rfl⟩
  have hgs1 : w.heap.size ≤ gs := by have := hb1.size; omega
  have hgs2 : (w1.alloc (.cells #[.int .i64 (k : Int)] 3)).heap.size = gs := by rw [hgs]; simp
  rw [hgs2] at hown2
  have HROW : Hid (VRow w2 w.heap.size (.slice (some ⟨gs, 0, none⟩) k k) (viewL g o cap k k 0)) := Lib.hid (by
    unfold VRow
    rw [viewL_length, ← viewL_zero]
    have : (madeCells (Value.slice none 0 0).cells (k * 1)).toList = List.replicate k (Value.slice none 0 0) := madeOne _ rfl k
    rw [this] at hown2
    exact hown2)
  have HBE : Hid (Below w.heap.size w w2) := Lib.hid ((hb1.alloc hb1.size _).grown hgrow2 (by have := hb1.size; simp; omega) (by simp))
  rw [← hgs]
  clear hown2 hgrow2 hgs hgs2 hb1 HG HI HA
  go_loopw [32] (fun i wr => ∃ p : Nat, p ≤ k ∧ i = .int .i64 (p : Int) ∧ VRow wr w.heap.size (.slice (some ⟨gs, 0, none⟩) k k) (viewL g o cap k k p) ∧ Below w.heap.size w wr) (fun i _ => k - (intOf i).toNat)
  case atStart => exact ⟨0, Nat.zero_le _, rfl, HROW.out, HBE.out⟩
  case round =>
    obtain ⟨p, hp, rfl, hrow, hb⟩ := hrel
    clear HROW HBE
    by_cases hlt : p < k
    · have d1 := hrow.cell (j := p) (by rw [viewL_length]; omega)
      have f1 := hrow.free p
      have HST := Lib.hid (hrow.set p (viewS g o cap k p)).1
      rw [viewL_set] at HST
      have HB := Lib.hid hb
      have i1 : (p : Int) < (k : Int) := by omega
      have i2 : (p : Int) + (k : Int) ≤ (cap : Int) := by omega
      have i3 : (p : Int) ≤ (p : Int) + (k : Int) := by omega
      have i4 : ¬ cap = p := by omega
      have i5 : (p : Int) ≤ (cap : Int) := by omega
      have i6 : ((p : Int) + (k : Int) - (p : Int)).toNat = k := by omega
      clear hrow hb
      generalize (viewL g o cap k k p).getD p (.slice none 0 0) = old at *
      go_wp2_with fail
      exact ⟨⟨p + 1, by omega, by go_num, HST.out, HB.out.setCell (p := ⟨gs, p, none⟩) hgs1 _⟩, by simp [intOf]; omega⟩
    · obtain rfl : p = k := by omega
      have HD := Lib.hid (det_any p _ (hkR ms p p) wr (by omega) HSQ.out (views_rows hrow (Nat.lt_of_lt_of_le hg hb.size) (fun j hj => (hb.cell (p := ⟨g, o + j, none⟩) hg).trans (HC.out j hj)) hroom (by omega)))
      have HB := Lib.hid hb
      have EH : Hid (hkD ms p = detF p (hkR ms p p)) := Lib.hid rfl
      have hsz := hb.size
      clear hrow hb
      go_wp2_with (go_at_call 93; refine HD.out.mono ?_; rintro e w3 ⟨rfl, hb3⟩)
      go_ret2
      rw [EH.out]
      exact ⟨rfl, HB.out.trans (hb3.mono hsz)⟩
end Go.Proofs.Ytnmmgpmhpjjehaa
