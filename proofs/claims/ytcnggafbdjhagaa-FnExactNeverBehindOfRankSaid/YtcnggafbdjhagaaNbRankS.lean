/- spec.NeverBehindOfRank. -/
import Derived.Test.YtcnggafbdjhagaaNbRank
namespace Go.Proofs.Ytcnggafbdjhagaa
open Go.RowKit
theorem strOf_snocB (l : List UInt8) (c : UInt8) : strOf l ++ (⟨#[c]⟩ : ByteArray) = strOf (l ++ [c]) := by
  apply ByteArray.ext
  simp [strOf]
theorem nbN_bd {a b k : Int} (h : Asked a b k) : 0 ≤ neverN (cntV a b) a b k ∧ neverN (cntV a b) a b k ≤ 70368744177664 := by
  have hc := cntV_bd a b
  have hkb := h.kb
  have h1 := h.a0
  have h2 := h.b0
  have h3 := h.ab
  unfold neverN
  split
  · omega
  · have hm := mul_bd hc (show 0 ≤ a + 1 - k * b ∧ a + 1 - k * b ≤ 41 by omega)
    refine ⟨Int.ediv_nonneg hm.1 (by omega), ?_⟩
    have := Int.ediv_le_self (b := a + 1) hm.1
    omega
set_option maxHeartbeats 400000 in
theorem specNb_no (a b k r : Int) (w : World) (h : nbOk a b k r = false) : Calls Try.prog 50 #[.int .i64 a, .int .i64 b, .int .i64 k, .int .i64 r] w (Ret w (.tuple #[.string (strOf []), .bool false])) := by
  rcases Bool.eq_false_or_eq_true (allOk a b k) with hp | hp
  · have hA := allOk_of hp
    have HN : Hid (∀ w, Calls Try.prog 66 #[.int .i64 a, .int .i64 b, .int .i64 k] w (Ret w (.int .i64 (neverN (cntV a b) a b k)))) := Lib.hid fun w => baNever_ret a b k w hA
    have hbd := nbN_bd hA
    have hin : inB r 0 (neverN (cntV a b) a b k - 1) = false := inB_no (fun hh => by
      unfold nbOk at h
      unfold allOk at hp
      rw [hp, Bool.true_and, decide_eq_true hh.1, Bool.true_and, decide_eq_false_iff_not] at h
      omega)
    clear hA h
    generalize neverN (cntV a b) a b k = nn at *
    go_enter Try.func50, Try.ntmps50
    go_wp2_with (first | (go_at_call 63; refine (numbers_any a b k _).mono ?_; rintro e w' ⟨rfl, rfl⟩; rw [hp]) | (go_at_call 66; refine (HN.out _).mono ?_; rintro e w1 ⟨rfl, hb1⟩) | (go_at_call 78; refine (in_any _ _ _ _).mono ?_; rintro e w' ⟨rfl, rfl⟩; rw [hin]))
    go_ret2
    exact ⟨rfl, hb1⟩
  · go_enter Try.func50, Try.ntmps50
    go_wp2_with (go_at_call 63; refine (numbers_any a b k _).mono ?_; rintro e w' ⟨rfl, rfl⟩; rw [hp])
    go_ret2
    exact ⟨rfl, Below.refl _ _⟩
set_option maxRecDepth 100000 in
set_option maxHeartbeats 2000000 in
theorem specNb_yes (x y : Nat) (k r : Int) (w : World) (hxy : x + y ≤ 40) (hk : 1 ≤ k ∧ k ≤ 5) (hr : RAt x y k 0 (x + y) x y r) :
    Calls Try.prog 50 #[.int .i64 x, .int .i64 y, .int .i64 k, .int .i64 r] w (Ret w (.tuple #[.string (strOf (porB (WV x y k 0) (x + y) x y r)), .bool true])) := by
  have hA : Asked x y k := ⟨by omega, by omega, by omega, hk.1, hk.2⟩
  have hp := hA.ok
  have HN : Hid (∀ w, Calls Try.prog 66 #[.int .i64 x, .int .i64 y, .int .i64 k] w (Ret w (.int .i64 (neverN (cntV x y) x y k)))) := Lib.hid fun w => baNever_ret x y k w hA
  have hbd := nbN_bd hA
  have hin : inB r 0 (neverN (cntV x y) x y k - 1) = true := inB_yes (by
    have h1 := hr.r0
    have h2 := hr.lt
    rw [WV_never hk.1 hxy] at h2
    omega)
  have hk1 := hk.1
  have hk5 := hk.2
  have HL0 : Hid (leadV x y k x y = 0) := Lib.hid (lead_all x y k)
  generalize hNN : porB (WV x y k 0) (x + y) x y r = N at *
  have HN2 : Hid ([] ++ porB (WV x y k 0) (x + y) x y r = N) := Lib.hid hNN
  have HR := Lib.hid hr
  clear hA hr hNN
  generalize neverN (cntV x y) x y k = nn at *
  go_enter Try.func50, Try.ntmps50
  go_wp2_with (first | (go_at_call 63; refine (numbers_any x y k _).mono ?_; rintro e w' ⟨rfl, rfl⟩; rw [hp]) | (go_at_call 66; refine (HN.out _).mono ?_; rintro e w1 ⟨rfl, hb1⟩) | (go_at_call 78; refine (in_any _ _ _ _).mono ?_; rintro e w' ⟨rfl, rfl⟩; rw [hin]))
  have hsz1 := hb1.size
  go_loopw [0, 1, 3, 10, 11] (fun a0 b0 r0 o0 m0 wr => ∃ (n u d : Nat) (r m : Int) (out : List UInt8), Hid (RAt x y k 0 n u d r) ∧ a0 = .int .i64 (u : Int) ∧ b0 = .int .i64 (d : Int) ∧ r0 = .int .i64 r ∧ m0 = .int .i64 m ∧ Hid (leadV x y k u d = m) ∧ o0 = .string (strOf out) ∧ Hid (out ++ porB (WV x y k 0) n u d r = N) ∧ Hid (out.length + n = x + y) ∧ Below w.heap.size w wr) (fun a0 b0 _ _ _ _ => (intOf a0 + intOf b0).toNat)
  case atStart => exact ⟨x + y, x, y, r, 0, [], HR, rfl, rfl, rfl, rfl, HL0, rfl, HN2, Lib.hid (by simp), hb1⟩
  case round =>
    obtain ⟨n, u, d, r, m, out, HRA, rfl, rfl, rfl, rfl, HM, rfl, HO, HLen, hb⟩ := hrel
    clear HN HR HN2 HL0 hb1 hsz1
    have hsum := HRA.out.sum
    have hua := HRA.out.ua
    have hdb := HRA.out.db
    have hr0 := HRA.out.r0
    have hrl := HRA.out.lt
    have hlen : out.length + n = x + y := HLen.out
    have hlo := lead_ok (x := x) (y := y) (k := k) (u := u) (d := d) (by omega)
    have hlb := lead_bd (x := x) (y := y) (u := u) (d := d) hk hxy (by omega) (by omega)
    rw [HM.out] at hlo hlb
    have hwb := WV_bd x y k 0 u d hxy hua hdb
    have hsz := hb.size
    by_cases hpos : 0 < n
    · obtain ⟨q, rfl⟩ : ∃ q, n = q + 1 := ⟨n - 1, by omega⟩
      have hos : (strOf out).size ≤ 40 := by rw [strOf_size]; omega
      have hvb := WV_bd x y k 0 u ((d : Int) - 1) hxy hua (by omega)
      by_cases hdk : 0 < d ∧ k ≤ m
      · obtain ⟨d', rfl⟩ : ∃ d', d = d' + 1 := ⟨d - 1, by omega⟩
        have hkm := hdk.2
        have e1 : ((d' + 1 : Nat) : Int) - 1 = (d' : Int) := by omega
        have e2 : ((d' + 1 : Nat) : Int) = (d' : Int) + 1 := by omega
        have HBR : Hid (∀ w, Calls Try.prog 75 #[.int .i64 u, .int .i64 d', .int .i64 k, .int .i64 (m - k)] w (Ret w (.int .i64 (WV x y k 0 u d')))) := Lib.hid fun w => by
          rw [WV_down (by omega)]
          have := HM.out
          rw [e2] at this
          rw [this]
          exact baRest_any u d' k (m - k) w (by omega) hk (by omega)
        have HLD : Hid (leadV x y k u d' = m - k) := Lib.hid (by
          have := lead_down x y k (u : Int) ((d' + 1 : Nat) : Int)
          rw [e1, HM.out] at this
          exact this)
        by_cases hlt : r < WV x y k 0 u (((d' + 1 : Nat) : Int) - 1)
        · have HRD := Lib.hid (HRA.out.down hlt)
          have HPO := Lib.hid (porB_down (n := q) hlt)
          rw [e1] at hlt hvb HRD HPO
          rw [e2]
          clear hdk e1 e2
          generalize WV x y k 0 u d' = z at *
          go_wp2_with (go_at_call 75; refine (HBR.out _).mono ?_; rintro e w2 ⟨rfl, hb2⟩)
          go_roundw
          case rel => exact ⟨q, u, d', r, m - k, out ++ [68], HRD, rfl, by go_num, rfl, rfl, HLD, congrArg Value.string (strOf_snocB out 68), Lib.hid (by rw [← HO.out, HPO.out]; simp), Lib.hid (by simp; omega), hb.trans (hb2.mono hsz)⟩
          case measure => first | (simp [intOf]; done) | (simp [intOf]; omega)
        · have HRU := Lib.hid (HRA.out.up hlt)
          have HPO := Lib.hid (porB_up (n := q) hlt)
          obtain ⟨u', rfl⟩ : ∃ u', u = u' + 1 := ⟨u - 1, by have := HRU.out.u0; omega⟩
          have HLU : Hid (leadV x y k u' ((d' + 1 : Nat) : Int) = m + 1) := Lib.hid (by
            have := lead_up x y k ((u' + 1 : Nat) : Int) ((d' + 1 : Nat) : Int)
            rw [show ((u' + 1 : Nat) : Int) - 1 = (u' : Int) by omega, HM.out] at this
            exact this)
          rw [e1] at hlt hvb HRU HPO
          rw [show ((u' + 1 : Nat) : Int) - 1 = (u' : Int) by omega] at HRU HPO
          rw [e2]
          clear hdk e1
          generalize WV x y k 0 ((u' + 1 : Nat) : Int) d' = z at *
          go_wp2_with (go_at_call 75; refine (HBR.out _).mono ?_; rintro e w2 ⟨rfl, hb2⟩)
          go_roundw
          case rel => exact ⟨q, u', d' + 1, r - z, m + 1, out ++ [85], HRU, by go_num, by go_num, rfl, rfl, HLU, congrArg Value.string (strOf_snocB out 85), Lib.hid (by rw [← HO.out, HPO.out]; simp), Lib.hid (by simp; omega), hb.trans (hb2.mono hsz)⟩
          case measure => first | (simp [intOf]; done) | (simp [intOf]; omega)
      · have HZ : Hid (WV x y k 0 u ((d : Int) - 1) = 0) := Lib.hid (WV_none hdb (by rw [HM.out]; omega))
        have hlt : ¬ r < WV x y k 0 u ((d : Int) - 1) := by rw [HZ.out]; omega
        have HRU := Lib.hid (HRA.out.up hlt)
        have HPO := Lib.hid (porB_up (n := q) hlt)
        obtain ⟨u', rfl⟩ : ∃ u', u = u' + 1 := ⟨u - 1, by have := HRU.out.u0; omega⟩
        have HLU : Hid (leadV x y k u' (d : Int) = m + 1) := Lib.hid (by
          have := lead_up x y k ((u' + 1 : Nat) : Int) (d : Int)
          rw [show ((u' + 1 : Nat) : Int) - 1 = (u' : Int) by omega, HM.out] at this
          exact this)
        rw [show ((u' + 1 : Nat) : Int) - 1 = (u' : Int) by omega, HZ.out, Int.sub_zero] at HRU HPO
        have hnl : ¬ r < 0 := by omega
        clear hlt hvb HZ
        by_cases hd0 : 0 < d
        · have hkm : ¬ k ≤ m := by omega
          have hd1 : 0 < (d : Int) := by omega
          clear hdk
          go_wp2
          go_roundw
          case rel => exact ⟨q, u', d, r, m + 1, out ++ [85], HRU, by go_num, rfl, by go_num, rfl, HLU, congrArg Value.string (strOf_snocB out 85), Lib.hid (by rw [← HO.out, HPO.out]; simp), Lib.hid (by simp; omega), hb⟩
          case measure => first | (simp [intOf]; done) | (simp [intOf]; omega)
        · have hd1 : ¬ 0 < (d : Int) := by omega
          clear hdk
          go_wp2
          go_roundw
          case rel => exact ⟨q, u', d, r, m + 1, out ++ [85], HRU, by go_num, rfl, by go_num, rfl, HLU, congrArg Value.string (strOf_snocB out 85), Lib.hid (by rw [← HO.out, HPO.out]; simp), Lib.hid (by simp; omega), hb⟩
          case measure => first | (simp [intOf]; done) | (simp [intOf]; omega)
    · obtain rfl : n = 0 := by omega
      have HX : Hid (out = N) := by have := HO.out; unfold Hid; simpa [porB] using this
      have hz : ¬ 0 < (u : Int) + (d : Int) := by omega
      go_wp2
      go_ret2
      exact ⟨ret_sb (by rw [HX.out]) rfl, hb⟩
theorem specNb_ret (a b k r : Int) (w : World) : Calls Try.prog 50 #[.int .i64 a, .int .i64 b, .int .i64 k, .int .i64 r] w (Ret w (.tuple #[.string (nbS a b k r), .bool (nbOk a b k r)])) := by
  rcases Bool.eq_false_or_eq_true (nbOk a b k r) with h | h
  · have h2 := h
    unfold nbOk at h2
    simp [inK, cntOk] at h2
    obtain ⟨⟨⟨h4, h5⟩, ⟨h6, h7⟩, h8⟩, h9, h10⟩ := h2
    obtain ⟨x, rfl⟩ := Int.eq_ofNat_of_zero_le h6
    obtain ⟨y, rfl⟩ := Int.eq_ofNat_of_zero_le h7
    unfold nbS
    rw [h, if_pos rfl, Int.toNat_natCast, Int.toNat_natCast]
    exact specNb_yes x y k r w (by omega) ⟨h4, h5⟩ ⟨by simp, by omega, by omega, by omega, by omega, h9, by rw [WV_never h4 (by omega)]; exact h10⟩
  · rw [nbS_no h, h]
    exact specNb_no a b k r w h
end Go.Proofs.Ytcnggafbdjhagaa
