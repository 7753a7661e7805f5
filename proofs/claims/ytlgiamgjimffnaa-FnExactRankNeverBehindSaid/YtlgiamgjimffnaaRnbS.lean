/- spec.RankNeverBehind. -/
import Derived.Test.YtlgiamgjimffnaaRnbI
import Derived.Test.YtlgiamgjimffnaaRest
namespace Go.Proofs.Ytlgiamgjimffnaa
open Go.RowKit
def cntC (c : UInt8) (l : List UInt8) : Nat := l.count c
theorem count_snoc (l : List UInt8) (c x : UInt8) : (l ++ [x]).count c = l.count c + if x == c then 1 else 0 := by
  simp [List.count_append, List.count_cons]
theorem count_D {l : List UInt8} (h : ∀ x, x ∈ l → isUD x = true) : l.count 68 = l.length - cntU l := by
  induction l with
  | nil => rfl
  | cons x r ih =>
    have h1 := ih (fun y hy => h y (by simp [hy]))
    have h2 := h x (by simp)
    have h3 := cntU_le r
    rw [cntU_cons, List.count_cons, h1, List.length_cons]
    unfold isUD at h2
    by_cases e : x = 85
    · subst e; first | (simp; done) | (simp; omega)
    · have e2 : x = 68 := by simpa [e] using h2
      subst e2; first | (simp; done) | (simp; omega)
set_option maxHeartbeats 400000 in
theorem paCount_any (s : ByteArray) (c : UInt8) (w : World) (h40 : s.size ≤ 40) : Calls Try.prog 80 #[.string s, .int .u8 (c.toNat : Int)] w fun e w' => e = .returned (.int .i64 (cntC c s.data.toList : Nat)) ∧ w = w' := by
  go_enter Try.func80, Try.ntmps80
  go_wp2
  go_loop [5, 6] (fun q i => ∃ j : Nat, j ≤ s.size ∧ i = .int .i64 (j : Int) ∧ q = .int .i64 (cntC c (s.data.toList.take j) : Nat)) (fun _ i => s.size - (intOf i).toNat)
  case atStart => exact ⟨0, by omega, rfl, rfl⟩
  case round =>
    obtain ⟨j, hj, rfl, rfl⟩ := hrel
    by_cases hlt : j < s.size
    · have HT := Lib.hid (take_snoc s j hlt)
      have hcl : cntC c (s.data.toList.take j) ≤ j := by
        have h1 := List.count_le_length (l := s.data.toList.take j) (a := c)
        rw [List.length_take] at h1; unfold cntC; omega
      by_cases hc : s[j] = c
      · have hb : ((s[j].toNat : Int) == (c.toNat : Int)) = true := by rw [hc]; simp
        have HC : Hid (cntC c (s.data.toList.take (j + 1)) = cntC c (s.data.toList.take j) + 1) := by
          unfold Hid cntC; rw [HT.out, count_snoc, hc]; simp
        clear hc
        go_wp2
        go_round
        case rel => exact ⟨j + 1, by omega, by go_num, by rw [HC.out]; go_num⟩
        case measure => first | (simp [intOf]; done) | (simp [intOf]; omega)
      · have hb : ((s[j].toNat : Int) == (c.toNat : Int)) = false := by
          have : s[j].toNat ≠ c.toNat := fun e => hc (UInt8.toNat_inj.1 e)
          simp; omega
        have HC : Hid (cntC c (s.data.toList.take (j + 1)) = cntC c (s.data.toList.take j)) := by
          unfold Hid cntC; rw [HT.out, count_snoc]; simp [hc]
        clear hc
        go_wp2
        go_round
        case rel => exact ⟨j + 1, by omega, by go_num, by rw [HC.out]⟩
        case measure => first | (simp [intOf]; done) | (simp [intOf]; omega)
    · have HK : Hid (s.data.toList.take j = s.data.toList) := by
        unfold Hid; exact List.take_of_length_le (by simp; omega)
      go_wp2
      go_ret
      exact ⟨ret_int (by rw [HK.out]), rfl⟩
theorem fb_none {s : ByteArray} {k : Int} (hp : balOk s k = true) : noneB s k 0 = decide (fb (mg s k) 0 (s.size + 1) < 0) := by
  unfold noneB fbB
  rw [hp, mgN_yes hp, Bool.true_and, ← decide_not]
  congr 1
  rw [Int.not_le]
set_option maxHeartbeats 400000 in
theorem specRnb_no (s : ByteArray) (k : Int) (w : World) (hs : s.size ≤ maxLen) (hn : noneB s k 0 = false) : Calls Try.prog 38 #[.string s, .int .i64 k] w (Ret w (.tuple #[.int .i64 0, .bool false])) := by
  rcases Bool.eq_false_or_eq_true (balOk s k) with hp | hp
  · have HC := Lib.hid (balOk_of hp)
    have HF : Hid (∀ w, Calls Try.prog 76 #[.string s, .int .i64 k, .int .i64 (-1)] w (Ret w (.int .i64 (fb (mg s k) 0 (s.size + 1))))) := Lib.hid fun w => baFirst_any s k (-1) w HC.out.1 HC.out.2
    rw [fb_none hp, decide_eq_false_iff_not] at hn
    generalize fb (mg s k) 0 (s.size + 1) = z at *
    have hz : 0 ≤ z := by omega
    clear hn
    go_enter Try.func38, Try.ntmps38
    go_wp2_with (first | (go_at_call 75; refine (asked_any s k _ hs).mono ?_; rintro e w' ⟨rfl, rfl⟩; rw [hp]) | (go_at_call 76; refine (HF.out _).mono ?_; rintro e w1 ⟨rfl, hb⟩))
    go_ret2
    exact ⟨rfl, hb⟩
  · go_enter Try.func38, Try.ntmps38
    go_wp2_with (go_at_call 75; refine (asked_any s k _ hs).mono ?_; rintro e w' ⟨rfl, rfl⟩; rw [hp])
    go_ret2
    exact ⟨rfl, Below.refl _ _⟩
set_option maxRecDepth 100000 in
set_option maxHeartbeats 2000000 in
theorem specRnb_yes (s : ByteArray) (k : Int) (w : World) (hs : s.size ≤ maxLen) (hn : noneB s k 0 = true) : Calls Try.prog 38 #[.string s, .int .i64 k] w (Ret w (.tuple #[.int .i64 (rnbV s k), .bool true])) := by
  have hp := noneB_bal hn
  have HC := Lib.hid (balOk_of hp)
  have h40 := ((pathB_iff s).1 HC.out.1).1
  have hk1 := HC.out.2.1
  have hk5 := HC.out.2.2
  have HF : Hid (∀ w, Calls Try.prog 76 #[.string s, .int .i64 k, .int .i64 (-1)] w (Ret w (.int .i64 (fb (mg s k) 0 (s.size + 1))))) := Lib.hid fun w => baFirst_any s k (-1) w HC.out.1 HC.out.2
  have hz : fb (mg s k) 0 (s.size + 1) < 0 := by rw [fb_none hp, decide_eq_true_iff] at hn; exact hn
  generalize fb (mg s k) 0 (s.size + 1) = z at *
  have hcu := cntU_le s.data.toList
  have hl : s.data.toList.length = s.size := by simp
  obtain ⟨x, hx⟩ : ∃ x, x = cntU s.data.toList := ⟨_, rfl⟩
  obtain ⟨y, hy⟩ : ∃ y, y = s.size - cntU s.data.toList := ⟨_, rfl⟩
  have hxy : x + y = s.size := by omega
  have HPU : Hid (∀ w, Calls Try.prog 80 #[.string s, .int .u8 85] w fun e w' => e = .returned (.int .i64 (x : Nat)) ∧ w = w') := Lib.hid fun w => by rw [hx]; exact paCount_any s 85 w h40
  have HPD : Hid (∀ w, Calls Try.prog 80 #[.string s, .int .u8 68] w fun e w' => e = .returned (.int .i64 (y : Nat)) ∧ w = w') := Lib.hid fun w => by
    have h1 := paCount_any s 68 w h40
    unfold cntC at h1
    rw [count_D (fun c hc => by
      have := List.all_eq_true.1 (show s.data.toList.all isUD = true by have := HC.out.1; unfold pathB at this; rw [Bool.and_eq_true] at this; exact this.2) c hc
      exact this), hl, ← hy] at h1
    exact h1
  have HU0 : Hid ((x : Int) = (cntU (s.data.toList.drop 0) : Nat)) := Lib.hid (by rw [List.drop_zero]; omega)
  have HD0 : Hid ((y : Int) = (s.size : Int) - 0 - x) := Lib.hid (by omega)
  have HL0 : Hid (leadV x y k x y = 0) := Lib.hid (lead_all x y k)
  have HR0 : Hid (0 + rkL (WV x y k 0) (s.data.toList.drop 0) x y = rnbV s k) := Lib.hid (by rw [List.drop_zero, Int.zero_add]; unfold rnbV; rw [← hx, show s.size - x = y by omega])
  have hRB := (rnbV_bd s k h40).2
  generalize rnbV s k = R at *
  have HUD : Hid (UpTo s s.size) := Lib.hid fun j hj _ => ((pathB_iff s).1 HC.out.1).2 j hj
  clear hx hy hcu hl hn
  go_enter Try.func38, Try.ntmps38
  go_wp2_with fail
  refine (asked_any s k _ hs).mono ?_; rintro e w' ⟨rfl, rfl⟩; rw [hp]
  go_wp2_with fail
  refine (HF.out _).mono ?_; rintro e w1 ⟨rfl, hb1⟩
  go_wp2_with fail
  refine (HPU.out _).mono ?_; rintro e w' ⟨rfl, rfl⟩
  go_wp2_with fail
  refine (HPD.out _).mono ?_; rintro e w' ⟨rfl, rfl⟩
  go_wp2_with fail
  go_loopw [6, 7, 8, 9, 10] (fun aa bb rk mm ii wr => ∃ (i u d : Nat) (acc m : Int), i ≤ s.size ∧ ii = .int .i64 (i : Int) ∧ aa = .int .i64 (u : Int) ∧ bb = .int .i64 (d : Int) ∧ rk = .int .i64 acc ∧ mm = .int .i64 m ∧ 0 ≤ acc ∧ Hid (acc + rkL (WV x y k 0) (s.data.toList.drop i) u d = R) ∧ Hid ((u : Int) = (cntU (s.data.toList.drop i) : Nat)) ∧ Hid ((d : Int) = (s.size : Int) - i - u) ∧ u ≤ x ∧ d ≤ y ∧ Hid (leadV x y k u d = m) ∧ Below w.heap.size w wr) (fun _ _ _ _ ii _ => s.size - (intOf ii).toNat)
  case atStart => exact ⟨0, x, y, 0, 0, by omega, rfl, rfl, rfl, rfl, rfl, by omega, HR0, HU0, HD0, Nat.le_refl _, Nat.le_refl _, HL0, hb1⟩
  case round =>
    obtain ⟨i, u, d, acc, m, hi, rfl, rfl, rfl, rfl, rfl, hacc, HA, HU, HD, hux, hdy, HM, hb⟩ := hrel
    clear HU0 HD0 HR0 HL0 hb1
    have hlb := lead_bd (x := x) (y := y) (u := u) (d := d) (k := k) ⟨hk1, hk5⟩ (by omega) (by omega) (by omega)
    rw [HM.out] at hlb
    have hsz := hb.size
    by_cases hlt : i < s.size
    · have HDR := Lib.hid (dropc s i hlt)
      have hdl := dropl s (i + 1)
      have hcl := cntU_le (s.data.toList.drop (i + 1))
      rw [hdl] at hcl
      have hud := HUD.out i hlt hlt
      rw [isUD_int] at hud
      by_cases hc : (s[i] == 85) = true
      · have h85 : s[i].toNat = 85 := by simpa [← UInt8.toNat_inj] using hc
        have hb68 : ((s[i].toNat : Int) == 68) = false := by rw [h85]; rfl
        have HUN : Hid ((u : Int) - 1 = (cntU (s.data.toList.drop (i + 1)) : Nat)) := by
          have := HU.out
          rw [HDR.out, cntU_cons, hc] at this
          unfold Hid; simp at this; omega
        have HRN : Hid (acc + WV x y k 0 u ((d : Int) - 1) + rkL (WV x y k 0) (s.data.toList.drop (i + 1)) ((u : Int) - 1) d = R) := by
          have := HA.out
          rw [HDR.out, rkL_u hc] at this
          unfold Hid; omega
        obtain ⟨u', rfl⟩ : ∃ u', u = u' + 1 := ⟨u - 1, by have := HUN.out; omega⟩
        rw [show ((u' + 1 : Nat) : Int) - 1 = (u' : Int) by omega] at HUN HRN
        have hrp := (rkL_bd x y k 0 (by omega) (s.data.toList.drop (i + 1)) u' d (by omega) (by omega)).1
        have hvb := WV_bd x y k 0 ((u' + 1 : Nat) : Int) ((d : Int) - 1) (by omega) (by omega) (by omega)
        have hsum : acc + WV x y k 0 ((u' + 1 : Nat) : Int) ((d : Int) - 1) ≤ R := by have := HRN.out; omega
        have HLU : Hid (leadV x y k u' d = m + 1) := Lib.hid (by
          have := lead_up x y k ((u' + 1 : Nat) : Int) (d : Int)
          rw [show ((u' + 1 : Nat) : Int) - 1 = (u' : Int) by omega, HM.out] at this
          exact this)
        have HDN2 : Hid ((d : Int) = (s.size : Int) - ((i + 1 : Nat) : Int) - (u' : Int)) := Lib.hid (by have := HD.out; omega)
        clear hc h85 hud hdl hcl
        by_cases hdk : 0 < d ∧ k ≤ m
        · obtain ⟨d', rfl⟩ : ∃ d', d = d' + 1 := ⟨d - 1, by omega⟩
          have hkm := hdk.2
          have e1 : ((d' + 1 : Nat) : Int) - 1 = (d' : Int) := by omega
          have e2 : ((d' + 1 : Nat) : Int) = (d' : Int) + 1 := by omega
          have HBR : Hid (∀ w, Calls Try.prog 81 #[.int .i64 ((u' + 1 : Nat) : Int), .int .i64 d', .int .i64 k, .int .i64 (m - k)] w (Ret w (.int .i64 (WV x y k 0 ((u' + 1 : Nat) : Int) d')))) := Lib.hid fun w => by
            rw [WV_down (by omega)]
            have := HM.out
            rw [e2] at this
            rw [this]
            exact baRest_any (u' + 1) d' k (m - k) w (by omega) ⟨hk1, hk5⟩ (by omega)
          rw [e1] at hvb hsum HRN
          have e3 : ((u' + 1 : Nat) : Int) = (u' : Int) + 1 := by omega
          rw [e3] at HBR hvb hsum HRN ⊢
          rw [e2]
          clear hdk e1 e2 e3
          generalize WV x y k 0 ((u' : Int) + 1) d' = z2 at *
          go_wp2_with (go_at_call 81; refine (HBR.out _).mono ?_; rintro e w2 ⟨rfl, hb2⟩)
          go_roundw
          case rel => exact ⟨i + 1, u', d' + 1, acc + z2, m + 1, by omega, by go_num, by go_num, by go_num, rfl, rfl, by omega, HRN, HUN, HDN2, by omega, hdy, HLU, hb.trans (hb2.mono hsz)⟩
          case measure => first | (simp [intOf]; done) | (simp [intOf]; omega)
        · have HZ : Hid (WV x y k 0 ((u' + 1 : Nat) : Int) ((d : Int) - 1) = 0) := Lib.hid (WV_none (by omega) (by rw [HM.out]; omega))
          rw [HZ.out, Int.add_zero] at HRN
          have e3 : ((u' + 1 : Nat) : Int) = (u' : Int) + 1 := by omega
          rw [e3]
          clear HZ hvb hsum e3
          by_cases hd0 : 0 < d
          · have hkm : ¬ k ≤ m := by omega
            have hd1 : 0 < (d : Int) := by omega
            clear hdk
            go_wp2
            go_roundw
            case rel => exact ⟨i + 1, u', d, acc, m + 1, by omega, by go_num, by go_num, rfl, rfl, rfl, hacc, HRN, HUN, HDN2, by omega, hdy, HLU, hb⟩
            case measure => first | (simp [intOf]; done) | (simp [intOf]; omega)
          · have hd1 : ¬ 0 < (d : Int) := by omega
            clear hdk
            go_wp2
            go_roundw
            case rel => exact ⟨i + 1, u', d, acc, m + 1, by omega, by go_num, by go_num, rfl, rfl, rfl, hacc, HRN, HUN, HDN2, by omega, hdy, HLU, hb⟩
            case measure => first | (simp [intOf]; done) | (simp [intOf]; omega)
      · have hc' : (s[i] == 85) = false := by simpa using hc
        have h85 : s[i].toNat ≠ 85 := by simpa [← UInt8.toNat_inj] using hc
        have hb68 : ((s[i].toNat : Int) == 68) = true := by
          have h2 : ((s[i].toNat : Int) == 85) = false := by simp; omega
          rw [h2] at hud
          simpa using hud
        have HUN : Hid ((u : Int) = (cntU (s.data.toList.drop (i + 1)) : Nat)) := by
          have := HU.out
          rw [HDR.out, cntU_cons, hc'] at this
          unfold Hid; simpa using this
        have HRN : Hid (acc + rkL (WV x y k 0) (s.data.toList.drop (i + 1)) u ((d : Int) - 1) = R) := by
          have := HA.out
          rw [HDR.out, rkL_d hc'] at this
          exact this
        obtain ⟨d', rfl⟩ : ∃ d', d = d' + 1 := ⟨d - 1, by have := HD.out; have := HUN.out; omega⟩
        have e1 : ((d' + 1 : Nat) : Int) - 1 = (d' : Int) := by omega
        rw [e1] at HRN
        have HLD : Hid (leadV x y k u d' = m - k) := Lib.hid (by
          have := lead_down x y k (u : Int) ((d' + 1 : Nat) : Int)
          rw [e1, HM.out] at this
          exact this)
        have HDN2 : Hid ((d' : Int) = (s.size : Int) - ((i + 1 : Nat) : Int) - (u : Int)) := Lib.hid (by have := HD.out; omega)
        clear hc hc' h85 hud hdl hcl e1
        go_wp2
        go_roundw
        case rel => exact ⟨i + 1, u, d', acc, m - k, by omega, by go_num, rfl, by go_num, rfl, rfl, hacc, HRN, HUN, HDN2, hux, by omega, HLD, hb⟩
        case measure => first | (simp [intOf]; done) | (simp [intOf]; omega)
    · have HK : Hid (i = s.size) := by unfold Hid; omega
      go_wp2
      go_ret2
      have h9 := HA.out
      rw [HK.out, List.drop_of_length_le (by simp), rkL, Int.add_zero] at h9
      exact ⟨ret_ib h9 rfl, hb⟩
theorem specRnb_ret (s : ByteArray) (k : Int) (w : World) (hs : s.size ≤ maxLen) : Calls Try.prog 38 #[.string s, .int .i64 k] w (Ret w (.tuple #[.int .i64 (rnV s k), .bool (noneB s k 0)])) := by
  unfold rnV
  rcases Bool.eq_false_or_eq_true (noneB s k 0) with hn | hn
  · rw [hn, if_pos rfl]
    exact specRnb_yes s k w hs hn
  · rw [hn]
    exact specRnb_no s k w hs hn
end Go.Proofs.Ytlgiamgjimffnaa
