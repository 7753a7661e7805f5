/- The program's AllBetween. -/
import Derived.Test.YtlgiamgjimffnaaAbI
import Derived.Test.YtlgiamgjimffnaaAbS
import Derived.Test.YtlgiamgjimffnaaBtwI
namespace Go.Proofs.Ytlgiamgjimffnaa
open Go.RowKit
set_option linter.unusedVariables false
theorem lvT_in {lo hi u d : Int} {n : Nat} {x : ByteArray} (h0 : lo ≤ 0 ∧ 0 ≤ hi) (h : x ∈ lvT lo hi u d n) : lo ≤ (upN x.data.toList : Int) - dnN x.data.toList ∧ (upN x.data.toList : Int) - dnN x.data.toList ≤ hi := by
  unfold lvT mkT at h
  rw [List.mem_map] at h
  obtain ⟨p, hp, rfl⟩ := h
  have := btL_in n 0 u d p h0 hp
  simp only [List.toList_toArray]
  omega
theorem first_text (w : World) (L : List ByteArray) (h : L = [⟨#[]⟩]) : SRow (w.alloc (.cells #[.string ⟨#[]⟩] 9)) w.heap.size (.slice (some ⟨w.heap.size, 0, none⟩) 1 1) L :=
  SRow.of_own (World.ownsRow_lit w #[.string ⟨#[]⟩] 1 (Nat.le_refl _) (by simp [maxLen]) rfl) (by rw [h]; rfl) (by rw [h]; rfl)
set_option maxRecDepth 100000 in
set_option maxHeartbeats 2000000 in
theorem allBetween_ret (a b lo hi : Int) (w : World) : Calls Try.prog 61 #[.int .i64 a, .int .i64 b, .int .i64 lo, .int .i64 hi] w (StrsRet w (abOk a b lo hi) (abV a b lo hi)) := by
  have HC : Hid (∀ w, Calls Try.prog 59 #[.int .i64 a, .int .i64 b, .int .i64 lo, .int .i64 hi] w (Ret w (.tuple #[.int .i64 (cbV a b lo hi), .bool (cbOk a b lo hi)]))) := Lib.hid (countBetweenI_ret a b lo hi)
  rcases Bool.eq_false_or_eq_true (cbOk a b lo hi) with hc | hc
  case inr =>
    have e1 : abOk a b lo hi = false := by simp [abOk, hc]
    have e2 : abV a b lo hi = [] := by rw [abV, e1]; rfl
    rw [e1, e2]
    rw [hc] at HC
    clear e1 e2
    go_enter Try.func61, Try.ntmps61
    go_wp2_with (go_at_call 59; refine (HC.out _).mono ?_; rintro e w1 ⟨rfl, hb1⟩)
    go_ret2
    exact ⟨_, rfl, SRow.nil _ _, hb1⟩
  have hln := ab_len hc
  have ev : cbV a b lo hi = btZ (a + b) (a - b) lo hi := by rw [cbV, if_pos hc]
  rw [hc, ev] at HC
  clear ev
  have hcc := hc
  unfold cbOk at hcc
  rw [Bool.and_eq_true] at hcc
  obtain ⟨a1, b1, n40⟩ := cntOk_of hcc.1
  obtain ⟨⟨l1, l2⟩, g1, g2⟩ := walB_of hcc.2
  by_cases h300 : btZ (a + b) (a - b) lo hi ≤ 300
  case neg =>
    have e1 : abOk a b lo hi = false := by simp [abOk, h300]
    have e2 : abV a b lo hi = [] := by rw [abV, e1]; rfl
    rw [e1, e2]
    clear e1 e2 hln hc hcc
    generalize btZ (a + b) (a - b) lo hi = z at *
    have hz : 300 < z := by omega
    clear h300
    go_enter Try.func61, Try.ntmps61
    go_wp2_with (go_at_call 59; refine (HC.out _).mono ?_; rintro e w1 ⟨rfl, hb1⟩)
    go_ret2
    exact ⟨_, rfl, SRow.nil _ _, hb1⟩
  have e1 : abOk a b lo hi = true := by simp [abOk, hc, h300]
  have e2 : abV a b lo hi = lvT lo hi a b (a + b).toNat := by rw [abV, if_pos e1]
  rw [e1, e2]
  clear e1 e2 hc hcc
  by_cases h0 : btZ (a + b) (a - b) lo hi = 0
  · have e3 : lvT lo hi a b (a + b).toNat = [] := List.eq_nil_of_length_eq_zero (by omega)
    rw [e3]
    rw [h0] at HC
    clear h0 hln e3 h300
    go_enter Try.func61, Try.ntmps61
    go_wp2_with (go_at_call 59; refine (HC.out _).mono ?_; rintro e w1 ⟨rfl, hb1⟩)
    go_ret2
    exact ⟨_, rfl, SRow.nil _ _, hb1⟩
  obtain ⟨n, hn⟩ : ∃ n : Nat, a + b = n := ⟨(a + b).toNat, by omega⟩
  rw [show (a + b).toNat = n by omega]
  have hq0 : (btZ (a + b) (a - b) lo hi == 0) = false := beq_eq_false_iff_ne.2 h0
  have hn40 : n ≤ 40 := by omega
  have HW : Hid (∀ (k : Nat) (x : ByteArray) (w : World), x ∈ lvT lo hi a b k → k ≤ 40 → Calls Try.prog 110 #[.string x, .agg #[.int .i64 a, .int .i64 b], .agg #[.int .i64 lo, .int .i64 hi]] w fun e w' => ∃ v, e = .returned v ∧ SRow w' w.heap.size v (nxT lo hi a b x) ∧ Below w.heap.size w w') :=
    Lib.hid fun k x w hx hk => waysOn_any x a b lo hi w (lvT_mem hx hk).1 (lvT_in ⟨l2, g1⟩ hx) (by omega) (by omega) (by omega) (by omega)
  clear h0 hln
  generalize btZ (a + b) (a - b) lo hi = z at *
  have HN := Lib.hid hn
  clear hn
  go_enter Try.func61, Try.ntmps61
  go_wp2_with (go_at_call 59; refine (HC.out _).mono ?_; rintro e w1 ⟨rfl, hb1⟩)
  have hsz1 := hb1.size
  have HR1 := Lib.hid ((first_text w1 (lvT lo hi a b 0) rfl).mono hsz1)
  have HB1 := Lib.hid (hb1.alloc hsz1 (.cells #[.string ⟨#[]⟩] 9))
  clear hb1
  rw [HN.out]
  go_loopw [12, 36] (fun q i wr => ∃ k : Nat, k ≤ n ∧ i = .int .i64 (k : Int) ∧ SRow wr w.heap.size q (lvT lo hi a b k) ∧ Below w.heap.size w wr) (fun _ i _ => n - (intOf i).toNat)
  case atStart => exact ⟨0, Nat.zero_le _, rfl, HR1.out, HB1.out⟩
  case round =>
    obtain ⟨k, hk, rfl, hrow, hb⟩ := hrel
    by_cases hlt : k < n
    · have HTOT : Hid ((lvT lo hi a b k).flatMap (nxT lo hi a b) = lvT lo hi a b (k + 1)) := Lib.hid (lvT_succ lo hi a b k).symm
      have HLE : Hid ((lvT lo hi a b (k + 1)).length ≤ 1099511627776) := Lib.hid (lvT_small lo hi a b (by omega))
      have HLK : Hid ((lvT lo hi a b k).length ≤ 1099511627776) := Lib.hid (lvT_small lo hi a b (by omega))
      have HWK : Hid (∀ (x : ByteArray) (w : World), x ∈ lvT lo hi a b k → Calls Try.prog 110 #[.string x, .agg #[.int .i64 a, .int .i64 b], .agg #[.int .i64 lo, .int .i64 hi]] w fun e w' => ∃ v, e = .returned v ∧ SRow w' w.heap.size v (nxT lo hi a b x) ∧ Below w.heap.size w w') := Lib.hid fun x w hx => HW.out k x w hx (by omega)
      have hszr := hb.size
      have HROW := Lib.hid hrow
      have HB := Lib.hid hb
      obtain ⟨A, c, rfl⟩ := hrow.shape
      clear hrow hb HW HR1 HB1
      generalize lvT lo hi a b k = L at *
      generalize nxT lo hi a b = f at *
      generalize hMM : lvT lo hi a b (k + 1) = M at *
      have HMM := Lib.hid hMM
      clear hMM
      obtain ⟨w0, rfl⟩ : ∃ w0, w0 = wr := ⟨_, rfl⟩
      obtain ⟨m, hm⟩ : ∃ m, m = L.length := ⟨_, rfl⟩
      have HM := Lib.hid hm
      rw [← hm] at HROW ⊢
      have hm40 : m ≤ 1099511627776 := by rw [hm]; exact HLK.out
      clear hm
      go_wp2_with fail
      go_loopw [13, 40] (fun q i w2 => ∃ j : Nat, j ≤ m ∧ i = .int .i64 (j : Int) ∧ SRow w2 w0.heap.size q ((L.take j).flatMap f) ∧ Below w0.heap.size w0 w2) (fun _ i _ => m - (intOf i).toNat)
      case atStart => exact ⟨0, Nat.zero_le _, rfl, SRow.nil _ _, Below.refl _ _⟩
      case round =>
        obtain ⟨j, hj, rfl, hrl, hb2⟩ := hrel
        obtain ⟨A3, c3, rfl⟩ := hrl.shape
        have hz2 := hb2.size
        by_cases hlj : j < m
        · have hg := HROW.out.form' HM.out.symm (by omega)
          obtain ⟨g, cc, hv, hgB, hgl⟩ := hg
          injection hv with hv1 hv2 hv3
          subst hv1
          subst hv3
          have hjl : j < L.length := by have := HM.out; omega
          have hcj : wr.cell? ⟨g, j, none⟩ = some (.string (L.getD j ByteArray.empty)) := (hb2.cell (p := ⟨g, j, none⟩) hgl).trans (HROW.out.cell hjl)
          have HWJ : Hid (∀ w : World, Calls Try.prog 110 #[.string (L.getD j ByteArray.empty), .agg #[.int .i64 a, .int .i64 b], .agg #[.int .i64 lo, .int .i64 hi]] w fun e w' => ∃ v, e = .returned v ∧ SRow w' w.heap.size v (f (L.getD j ByteArray.empty)) ∧ Below w.heap.size w w') :=
            Lib.hid fun w => HWK.out _ w (by rw [List.getD_eq_getElem?_getD, List.getElem?_eq_getElem hjl]; exact List.getElem_mem hjl)
          have HF1 := Lib.hid (flat_upto f L j hjl ByteArray.empty)
          have HF2 : Hid (((L.take j).flatMap f).length + (f (L.getD j ByteArray.empty)).length ≤ 1099511627776) := Lib.hid (by
            have h1 := flat_upto_le f L (j + 1)
            have h2 := HLE.out
            rw [← HTOT.out] at h2
            rw [HF1.out, List.length_append] at h1
            omega)
          have i1 : (j : Int) < (m : Int) := by omega
          generalize L.getD j ByteArray.empty = x at *
          generalize hR : (L.take j).flatMap f = R at *
          have HRR := Lib.hid hR
          clear hR
          generalize f x = ys at *
          go_wp2_with (first
            | (go_at_call 110; refine (HWJ.out _).mono ?_; rintro e w3 ⟨v3, rfl, hr3, hb3⟩; obtain ⟨A4, c4, rfl⟩ := hr3.shape; have hrl3 := hrl.below hb3)
            | (at_builtin; refine wpList_extendS (.tmp 44) (.tmp 52) rfl rfl w0.heap.size _ _ _ R ys rfl hrl3 rfl hr3 HF2.out (Nat.le_trans hz2 hb3.size) ?_; intro v' w4 hr4 hg4))
          go_roundw
          case rel => exact ⟨j + 1, by omega, by go_num, by rw [HF1.out]; exact hr4, (hb2.trans (hb3.mono hz2)).grown hg4 (Nat.le_trans hz2 hb3.size) (fun q hq => (hrl3.blk q hq).1)⟩
          case measure => simp [intOf]; omega
        · have HJM : Hid (L.take j = L) := Lib.hid (List.take_of_length_le (by have := HM.out; omega))
          rw [HJM.out, HTOT.out] at hrl ⊢
          have i1 : ¬ (j : Int) < (m : Int) := by omega
          have hrm := hrl.mono hszr
          have hbm := HB.out.trans (hb2.mono hszr)
          go_wp2_with fail
          go_roundw
          case rel => exact ⟨k + 1, by omega, by go_num, by rw [HMM.out]; exact hrm, hbm⟩
          case measure => simp [intOf]; omega
    · obtain rfl : k = n := by omega
      go_wp2_with fail
      go_ret2
      exact ⟨_, rfl, hrow, hb⟩
end Go.Proofs.Ytlgiamgjimffnaa
