/- The model's kiHankel, HankelOf. -/
import Derived.Test.YtnmmgpmhpjjehaaDetS
import Derived.Test.YtnmmgpmhpjjehaaShS
import Derived.Test.YtnmmgpmhpjjehaaKmS
namespace Go.Proofs.Ytnmmgpmhpjjehaa
open Go.RowKit
set_option linter.unusedVariables false
set_option maxRecDepth 100000 in
set_option maxHeartbeats 2000000 in
theorem kiHankel_any (v : Value) (ms : List Int) (n : Nat) (w : World) (h : RInts w v ms) (hl : 2 * n ≤ ms.length + 1) (h8 : ms.length ≤ 8) (hn : n ≤ 4) (hb : ∀ k, k < ms.length → -10000 ≤ ms.getD k 0 ∧ ms.getD k 0 ≤ 10000) :
    Calls Try.prog 91 #[v, .int .i64 (n : Int)] w (Ret w (.int .i64 (hkD ms n))) := by
  have HS := Lib.hid (hkR_sq hl hb)
  have H := Lib.hid h
  obtain ⟨A0, cap, rfl⟩ := h.shape
  obtain ⟨m1, m2⟩ := h.room _ _ _ rfl
  clear h hb
  go_enter Try.func91, Try.ntmps91
  go_wp2_with fail
  go_loopw [5, 6] (fun r i wr => ∃ (k M : Nat) (vs : List Value), k ≤ n ∧ i = .int .i64 (k : Int) ∧ TRow wr w.heap.size M r vs (hkR ms n k) ∧ w.heap.size ≤ M ∧ Below w.heap.size w wr) (fun _ i _ => n - (intOf i).toNat)
  case atStart => exact ⟨0, w.heap.size, [], Nat.zero_le _, rfl, TRow.nil (Nat.le_refl _), Nat.le_refl _, Below.refl _ _⟩
  case round =>
    obtain ⟨k, M, vs, hk, rfl, htr, hM, hb⟩ := hrel
    by_cases hlt : k < n
    · obtain ⟨g, o, cc, hv, hg, hcells⟩ := H.out.cells (by omega)
      have hA : A0 = some ⟨g, o, none⟩ := by injection hv
      subst hA
      clear hv
      obtain ⟨A, cl, rfl⟩ := htr.out.shape
      have HVL : Hid (vs.length ≤ 2000000) := Lib.hid (by rw [htr.len, hkR_length]; omega)
      have HOWN : Hid (Calls Try.prog 95 #[.slice (some ⟨g, o + k, none⟩) n (cap - k)] wr (IntsNew wr ((ms.drop k).take n))) := Lib.hid (by
        have e : ((ms.drop k).take n).length = n := by rw [List.length_take, List.length_drop]; omega
        have := l1Own_any g (o + k) (cap - k) ((ms.drop k).take n) wr (Nat.lt_of_lt_of_le hg hb.size) (fun i hi => by
          rw [e] at hi
          rw [List.getD_eq_getElem?_getD, List.getElem?_take, if_pos hi, List.getElem?_drop, ← List.getD_eq_getElem?_getD, Nat.add_assoc]
          exact (hb.cell (p := ⟨g, o + (k + i), none⟩) hg).trans (hcells (k + i) (by omega))) (by omega)
        rwa [e] at this)
      have HR : Hid (hkR ms n (k + 1) = hkR ms n k ++ [(ms.drop k).take n]) := Lib.hid (hkR_succ _ _ _)
      have hsz := htr.size
      have HT := Lib.hid htr
      have HB := Lib.hid hb
      generalize (ms.drop k).take n = r at *
      have i1 : (k : Int) < (n : Int) := by omega
      have i2 : (k : Int) + (n : Int) ≤ (cap : Int) := by omega
      have i3 : (k : Int) ≤ (k : Int) + (n : Int) := by omega
      have i4 : ¬ cap = k := by omega
      have i5 : (k : Int) ≤ (cap : Int) := by omega
      have i6 : ((k : Int) + (n : Int) - (k : Int)).toNat = n := by omega
      clear htr hb hcells
      go_wp2_with (first
        | (go_at_call 95; refine HOWN.out.mono ?_; rintro e w1 ⟨v1, rfl, hr1, hb1⟩; have ht1 := HT.out.below hb1; have hz1 := hb1.size; obtain ⟨A2, c2, rfl⟩ := hr1.shape)
        | (at_builtin; refine wpList_pushV (.tmp 12) (.tmp 20) rfl rfl w.heap.size _ vs rfl (ht1.out.alloc _) w1.heap.size (.slice A2 r.length c2) rfl (by simp) rfl HVL.out (by have := HB.out.size; simp; omega) ?_; intro v3 w3 hr3 hg3 hat3))
      have hgl := grown_alloc_left hg3
      have HT3 := Lib.hid (ht1.push (hr1.mono hsz) hM hr3 hgl (hat_alloc' hat3))
      have HB3 := Lib.hid ((HB.out.trans (hb1.mono HB.out.size)).grown hgl (Nat.le_trans HB.out.size hz1) (fun q hq => (ht1.outB q hq).1))
      clear ht1 hr1 hb1 hr3 hg3 hat3 hgl
      go_roundw
      case rel => exact ⟨k + 1, w3.heap.size, _, by omega, by go_num, by rw [HR.out]; exact HT3.out, HB3.out.size, HB3.out⟩
      case measure => simp [intOf]; omega
    · have e3 : k = n := by omega
      subst e3
      have HD := Lib.hid (kiDet_any k _ (hkR ms k k) wr hn HS.out htr.mrows)
      have hz := hb.size
      obtain ⟨A, cl, rfl⟩ := htr.out.shape
      clear htr
      have EH : Hid (hkD ms k = detF k (hkR ms k k)) := Lib.hid rfl
      rw [EH.out]
      generalize detF k (hkR ms k k) = D at *
      go_wp2_with (go_at_call 109; refine HD.out.mono ?_; rintro e w2 ⟨rfl, hb2⟩)
      go_ret
      rw [EH.out]
      exact ⟨rfl, hb.trans (hb2.mono hz)⟩
theorem all_any (v : Value) (xs : List Int) (lo hi : Int) (w : World) (h : RInts w v xs) (hl : xs.length ≤ 1048576) :
    Calls Try.prog 90 #[v, .int .i64 lo, .int .i64 hi] w fun e w' => e = .returned (.bool (allB xs lo hi)) ∧ w = w' := l1All_any v xs lo hi w h hl
theorem allB_of {xs : List Int} {lo hi : Int} (h : allB xs lo hi = true) : ∀ k, k < xs.length → lo ≤ xs.getD k 0 ∧ xs.getD k 0 ≤ hi := fun k hk => by
  unfold allB inBd at h
  simp only [Bool.and_eq_true, decide_eq_true_eq, List.all_eq_true] at h
  rw [List.getD_eq_getElem?_getD, List.getElem?_eq_getElem hk]
  exact h _ (List.getElem_mem hk)
set_option maxRecDepth 100000 in
set_option maxHeartbeats 1000000 in
theorem specHankel_ret (v : Value) (ms : List Int) (n : Int) (w : World) (h : RInts w v ms) (hl : ms.length ≤ 1048576) :
    Calls Try.prog 53 #[v, .int .i64 n] w (Ret w (.tuple #[.int .i64 (hkV ms n), .bool (hkOk ms n)])) := by
  have HG := Lib.hid (kiGood_any v ms w h hl)
  have HA := Lib.hid (all_any v ms (-10000) 10000 w h hl)
  have HI : Hid (∀ w, Calls Try.prog 71 #[.int .i64 n, .int .i64 0, .int .i64 4] w fun e w' => e = .returned (.bool (inBd 0 4 n)) ∧ w = w') := Lib.hid fun w => in_any n 0 4 w
  have H := Lib.hid h
  obtain ⟨A0, cap, rfl⟩ := h.shape
  clear h
  by_cases hok : hkOk ms n = true
  · have h1 := hok
    unfold hkOk at h1
    simp only [Bool.and_eq_true, Bool.not_eq_true', decide_eq_false_iff_not] at h1
    obtain ⟨⟨⟨a1, a2⟩, a3⟩, a4⟩ := h1
    have hn := inBd_iff a3
    obtain ⟨k, rfl⟩ := Int.eq_ofNat_of_zero_le hn.1
    have e1 : hkV ms (k : Int) = hkD ms k := by unfold hkV; rw [if_pos hok]; rfl
    have HK := Lib.hid (kiHankel_any _ ms k w H.out (by omega) ((momB_of a1).1.2) (by omega) (allB_of a2))
    rw [hok, e1]
    rw [a1] at HG
    rw [a2] at HA
    rw [a3] at HI
    generalize hkD ms k = D at *
    have hs8 := (momB_of a1).1
    clear hok a1 a2 a3 e1
    go_enter Try.func53, Try.ntmps53
    go_wp2_with (first | (go_at_call 89; refine HG.out.mono ?_; rintro e w' ⟨rfl, rfl⟩) | (go_at_call 90; refine HA.out.mono ?_; rintro e w' ⟨rfl, rfl⟩) | (go_at_call 71; refine (HI.out _).mono ?_; rintro e w' ⟨rfl, rfl⟩) | (go_at_call 91; refine HK.out.mono ?_; rintro e w2 ⟨rfl, hb2⟩))
    go_ret2
    exact ⟨rfl, hb2⟩
  · have e2 : hkV ms n = 0 := by unfold hkV; rw [if_neg hok]
    rw [Bool.not_eq_true] at hok
    rw [hok, e2]
    have h1 := hok
    unfold hkOk at h1
    rcases Bool.eq_false_or_eq_true (momB ms) with a1 | a1
    · rcases Bool.eq_false_or_eq_true (allB ms (-10000) 10000) with a2 | a2
      · rcases Bool.eq_false_or_eq_true (inBd 0 4 n) with a3 | a3
        · rw [a1, a2, a3] at h1
          have h2 : ((ms.length : Nat) : Int) < 2 * n - 1 := by simpa using h1
          have hn := inBd_iff a3
          rw [a1] at HG
          rw [a2] at HA
          rw [a3] at HI
          clear h1 hok a1 a2 a3 e2
          go_enter Try.func53, Try.ntmps53
          go_wp2_with (first | (go_at_call 89; refine HG.out.mono ?_; rintro e w' ⟨rfl, rfl⟩) | (go_at_call 90; refine HA.out.mono ?_; rintro e w' ⟨rfl, rfl⟩) | (go_at_call 71; refine (HI.out _).mono ?_; rintro e w' ⟨rfl, rfl⟩))
          go_ret2
          exact ⟨rfl, Below.refl _ _⟩
        · rw [a1] at HG
          rw [a2] at HA
          rw [a3] at HI
          clear h1 hok a1 a2 a3 e2
          go_enter Try.func53, Try.ntmps53
          go_wp2_with (first | (go_at_call 89; refine HG.out.mono ?_; rintro e w' ⟨rfl, rfl⟩) | (go_at_call 90; refine HA.out.mono ?_; rintro e w' ⟨rfl, rfl⟩) | (go_at_call 71; refine (HI.out _).mono ?_; rintro e w' ⟨rfl, rfl⟩))
          go_ret2
          exact ⟨rfl, Below.refl _ _⟩
      · rw [a1] at HG
        rw [a2] at HA
        clear h1 hok a1 a2 e2
        go_enter Try.func53, Try.ntmps53
        go_wp2_with (first | (go_at_call 89; refine HG.out.mono ?_; rintro e w' ⟨rfl, rfl⟩) | (go_at_call 90; refine HA.out.mono ?_; rintro e w' ⟨rfl, rfl⟩))
        go_ret2
        exact ⟨rfl, Below.refl _ _⟩
    · rw [a1] at HG
      clear h1 hok a1 e2
      go_enter Try.func53, Try.ntmps53
      go_wp2_with (go_at_call 89; refine HG.out.mono ?_; rintro e w' ⟨rfl, rfl⟩)
      go_ret2
      exact ⟨rfl, Below.refl _ _⟩
end Go.Proofs.Ytnmmgpmhpjjehaa
