/- The program's TouchText. -/
import Derived.Test.YtlgiamgjimffnaaCompI
namespace Go.Proofs.Ytlgiamgjimffnaa
open Go.RowKit
set_option linter.unusedVariables false
theorem compact_nil (w : World) : Calls Try.prog 112 #[.slice none 0 0] w fun e w' => e = .returned (.slice none 0 0) ∧ w = w' := by
  go_enter Try.func112, Try.ntmps112
  go_wp2
  go_ret
  exact ⟨rfl, rfl⟩
theorem compact_own {w : World} {B : Nat} {v : Value} {L : List UInt8} (h : BOwn w B v L) (hl : L.length ≤ 1000000) :
    Calls Try.prog 112 #[v] w fun e w' => ∃ v', e = .returned v' ∧ (convert 89 9 v').run Try.prog w' = .ok (.string (strOf (cmpL L))) w' ∧ Below B w w' := by
  have h2 := h
  rcases h.2 with ⟨h1, h0⟩ | ⟨g, cap, cur, hv, hg, hh, hc, hm, _⟩
  · subst h1
    obtain rfl : L = [] := List.eq_nil_of_length_eq_zero h0
    exact (compact_nil w).mono fun e w' ⟨e1, e2⟩ => ⟨_, e1, run_str_nil w', by rw [e2]; exact Below.refl _ _⟩
  · subst hv
    have hr : BRow w B g L := ⟨hg, (Array.getElem?_eq_some_iff.1 hh).1, fun j hj => h2.cell hj, fun j _ => h2.free j⟩
    exact (compact_any L B g cap w hr hc hl).mono fun e w' ⟨e1, e2, e3⟩ => ⟨_, e1, run_str_cells w' g _ cap _ rfl e2, e3⟩
set_option maxRecDepth 100000 in
set_option maxHeartbeats 1600000 in
theorem touchText_ret (s : ByteArray) (lo hi : Int) (w : World) (hs : s.size ≤ maxLen) : Calls Try.prog 68 #[.string s, .int .i64 lo, .int .i64 hi] w (Ret w (.tuple #[.string (txV s lo hi), .bool (txOk s lo hi)])) := by
  have HI : Hid (∀ w, Calls Try.prog 103 #[.int .i64 lo, .int .i64 hi] w (Ret w (.bool (walB lo hi)))) := Lib.hid (areWalls_ret lo hi)
  rcases Bool.eq_false_or_eq_true (pathB s) with hp | hp
  case inr =>
    have e1 : txOk s lo hi = false := by simp [txOk, hp]
    have e2 : txV s lo hi = ⟨#[]⟩ := by rw [txV, e1]; rfl
    rw [e1, e2]
    clear e1 e2
    go_enter Try.func68, Try.ntmps68
    go_wp2_with (go_at_call 88; refine (heights_no s _ hs hp).mono ?_; rintro e w' ⟨rfl, rfl⟩)
    go_ret2
    exact ⟨rfl, Below.refl _ _⟩
  have HP := Lib.hid hp
  have h40 := ((pathB_iff s).1 hp).1
  rcases Bool.eq_false_or_eq_true (walB lo hi) with hw | hw
  case inr =>
    have e1 : txOk s lo hi = false := by simp [txOk, hw]
    have e2 : txV s lo hi = ⟨#[]⟩ := by rw [txV, e1]; rfl
    rw [e1, e2]
    rw [hw] at HI
    clear e1 e2 hp hw
    go_enter Try.func68, Try.ntmps68
    go_wp2_with (first | (go_at_call 88; refine (heights_any s _ hs HP.out).mono ?_; rintro e w1 ⟨v, rfl, hr, hb⟩; obtain ⟨g, c, rfl, hgB, hgl⟩ := hr.form' (hts_length s) (by omega)) | (go_at_call 103; refine (HI.out _).mono ?_; rintro e w2 ⟨rfl, hb2⟩))
    go_ret2
    exact ⟨rfl, hb.trans (hb2.mono hb.size)⟩
  by_cases hq : lo = hi
  · have e1 : txOk s lo hi = false := by simp [txOk, hq]
    have e2 : txV s lo hi = ⟨#[]⟩ := by rw [txV, e1]; rfl
    have q : (lo == hi) = true := by simpa using hq
    rw [e1, e2]
    rw [hw] at HI
    clear e1 e2 hp hw hq
    go_enter Try.func68, Try.ntmps68
    go_wp2_with (first | (go_at_call 88; refine (heights_any s _ hs HP.out).mono ?_; rintro e w1 ⟨v, rfl, hr, hb⟩; obtain ⟨g, c, rfl, hgB, hgl⟩ := hr.form' (hts_length s) (by omega)) | (go_at_call 103; refine (HI.out _).mono ?_; rintro e w2 ⟨rfl, hb2⟩))
    go_ret2
    exact ⟨rfl, hb.trans (hb2.mono hb.size)⟩
  have e1 : txOk s lo hi = true := by simp [txOk, hp, hw, hq]
  have e2 : txV s lo hi = strOf (cmpL (sgL s lo hi (s.size + 1))) := by rw [txV, if_pos e1, tx_sg]
  have q : (lo == hi) = false := beq_eq_false_iff_ne.2 hq
  rw [e1, e2]
  rw [hw] at HI
  clear e1 e2 hp hw hq
  go_enter Try.func68, Try.ntmps68
  go_wp2_with (first | (go_at_call 88; refine (heights_any s _ hs HP.out).mono ?_; rintro e w1 ⟨v, rfl, hr, hb⟩; obtain ⟨g, c, rfl, hgB, hgl⟩ := hr.form' (hts_length s) (by omega)) | (go_at_call 103; refine (HI.out _).mono ?_; rintro e w2 ⟨rfl, hb2⟩; have hr2 := hr.below hb2))
  have HB0 := Lib.hid (hb.trans (hb2.mono hb.size))
  have HR := Lib.hid hr2
  have hz2 := HB0.out.size
  clear hr hb hb2 hr2
  go_loopw [10, 33] (fun q i wr => ∃ k : Nat, k ≤ s.size + 1 ∧ i = .int .i64 (k : Int) ∧ BOwn wr w2.heap.size q (sgL s lo hi k) ∧ Below w2.heap.size w2 wr) (fun _ i _ => s.size + 1 - (intOf i).toNat)
  case atStart => exact ⟨0, Nat.zero_le _, rfl, BOwn.nil _ _, Below.refl _ _⟩
  case round =>
    obtain ⟨k, hk, rfl, hrow, hb⟩ := hrel
    have hsl := sgL_len s lo hi k
    have hsz := hb.size
    by_cases hlt : k < s.size + 1
    · have hc := hts_at (HR.out.below hb) k (by omega)
      by_cases hl : hAt s k = lo
      · have HS : Hid (sgL s lo hi (k + 1) = sgL s lo hi k ++ [108]) := Lib.hid (by rw [sgL, if_pos hl])
        have q1 : (hAt s k == lo) = true := by simpa using hl
        clear hl
        generalize hAt s k = x at *
        generalize hL : sgL s lo hi k = L at *
        have HL := Lib.hid hL
        clear hL
        obtain ⟨A1, c1, rfl⟩ := hrow.shape
        go_wp2_with (at_builtin; refine wpList_pushB 108 (.tmp 41) (.tmp 42) rfl rfl w2.heap.size _ L rfl hrow rfl (by omega) hsz ?_; intro v' w' hrow' hg' hat')
        go_roundw
        case rel => exact ⟨k + 1, by omega, by go_num, by rw [HS.out]; exact hrow', hb.grown hg' hsz (fun i hi => (hrow.blk i hi).1)⟩
        case measure => simp [intOf]; omega
      · have q1 : (hAt s k == lo) = false := beq_eq_false_iff_ne.2 hl
        by_cases hh : hAt s k = hi
        · have HS : Hid (sgL s lo hi (k + 1) = sgL s lo hi k ++ [104]) := Lib.hid (by rw [sgL, if_neg hl, if_pos hh])
          have q2 : (hAt s k == hi) = true := by simpa using hh
          clear hl hh
          generalize hAt s k = x at *
          generalize hL : sgL s lo hi k = L at *
          have HL := Lib.hid hL
          clear hL
          obtain ⟨A1, c1, rfl⟩ := hrow.shape
          go_wp2_with (at_builtin; refine wpList_pushB 104 (.tmp 47) (.tmp 48) rfl rfl w2.heap.size _ L rfl hrow rfl (by omega) hsz ?_; intro v' w' hrow' hg' hat')
          go_roundw
          case rel => exact ⟨k + 1, by omega, by go_num, by rw [HS.out]; exact hrow', hb.grown hg' hsz (fun i hi => (hrow.blk i hi).1)⟩
          case measure => simp [intOf]; omega
        · have HS : Hid (sgL s lo hi (k + 1) = sgL s lo hi k) := Lib.hid (by rw [sgL, if_neg hl, if_neg hh])
          have q2 : (hAt s k == hi) = false := beq_eq_false_iff_ne.2 hh
          clear hl hh
          generalize hAt s k = x at *
          go_wp2_with fail
          go_roundw
          case rel => exact ⟨k + 1, by omega, by go_num, by rw [HS.out]; exact hrow, hb⟩
          case measure => simp [intOf]; omega
    · have HK : Hid (k = s.size + 1) := Lib.hid (by omega)
      have HBT := Lib.hid (HB0.out.trans (hb.mono hz2))
      have HC := Lib.hid (compact_own hrow (by omega))
      obtain ⟨A1, c1, rfl⟩ := hrow.shape
      clear hrow hb
      generalize hLL : sgL s lo hi k = L at *
      have HSG : Hid (sgL s lo hi (s.size + 1) = L) := Lib.hid (by rw [← hLL, HK.out])
      clear hLL
      have hlt2 : ¬ (k : Int) < (s.size : Int) + 1 := by omega
      go_wp2_with (go_at_call 112; refine HC.out.mono ?_; rintro e w3 ⟨v', rfl, hcv, hb3⟩)
      go_ret2
      exact ⟨by rw [HSG.out]; rfl, HBT.out.trans (hb3.mono hz2)⟩
end Go.Proofs.Ytlgiamgjimffnaa
