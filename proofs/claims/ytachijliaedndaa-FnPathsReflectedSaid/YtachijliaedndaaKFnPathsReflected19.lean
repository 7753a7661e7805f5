/- Pack 19 of what FnPathsReflected needs: MarkText, Cur4. -/
import Derived.Test.YtachijliaedndaaKFnPathsReflected18
import Derived.Deep.QuietTactic
import Derived.BigQuiet
/- markText: some text that depends on its number alone. -/
namespace Go.Proofs.Ytachijliaedndaa
open Go.RowKit
def mtGo : Nat → Nat → ByteArray → ByteArray
  | 0, _, out => out
  | f + 1, k, out => if 0 < k then mtGo f (k / 10) (⟨#[UInt8.ofNat (48 + k % 10)]⟩ ++ out) else out
def mt (k : Nat) : ByteArray := ⟨#[109]⟩ ++ mtGo (k + 1) k ⟨#[]⟩
theorem mtGo_step {f k : Nat} {out : ByteArray} (h : 0 < k) : mtGo (f + 1) k out = mtGo f (k / 10) (⟨#[UInt8.ofNat (48 + k % 10)]⟩ ++ out) := by rw [mtGo, if_pos h]
theorem mtGo_end {f : Nat} {out : ByteArray} : mtGo f 0 out = out := by
  cases f <;> rfl
theorem run_one_byte (w : World) (n : Nat) (hn : n < 256) : (convert 22 9 (.slice (some ⟨w.heap.size, 0, none⟩) 1 1)).run Try.prog (w.alloc (.cells #[.int .u8 ((n : Nat) : Int)] 5)) = .ok (.string ⟨#[UInt8.ofNat n]⟩) (w.alloc (.cells #[.int .u8 ((n : Nat) : Int)] 5)) := by
  have := run_convert_bytes_back (P := Try.prog) (w.alloc (.cells #[.int .u8 ((n : Nat) : Int)] 5)) 22 9 5 ⟨w.heap.size, 0, none⟩ 1 [UInt8.ofNat n] Try.underlying22 Try.underlying5 Try.underlying9 (fun j hj => by
    obtain rfl : j = 0 := by simp at hj; omega
    simp [Addr.add]; omega)
  simpa using this
end Go.Proofs.Ytachijliaedndaa

/- The cursor of the laws' draws: spoilt, anyPath. -/
namespace Go.Proofs.Ytachijliaedndaa
open Go.RowKit
theorem ext_size (s : ByteArray) (a b : Nat) : (s.extract a b).size ≤ s.size := by
  rw [ByteArray.size_extract]; omega
theorem ext_size2 (s : ByteArray) (a b : Nat) (h : b ≤ s.size) : (s.extract a b).size = b - a := by
  rw [ByteArray.size_extract]; omega
set_option maxRecDepth 100000 in
set_option maxHeartbeats 4000000 in
theorem spoilt_any (w : World) (g : Nat) (A : Option Addr) (len cap T : Nat) (t0 W0 : ByteArray) (hm : t0.size ≤ 1000) (hw : 1 ≤ W0.size ∧ W0.size ≤ 1000) (hc : Cur w g A len cap T) (hT : T ≤ 1000000000) (hl : len ≤ 1099511627776) :
    Calls Try.prog 241 #[.pointer (some ⟨g, 0, none⟩), .string t0, .string W0] w (CurRet w g A len cap (T + 14) (StrP (SizeTo (t0.size + 2)))) := by
  have HP := Lib.hid (pick_any w g A len cap T 2 (by omega) hc (by omega) hl)
  clear hc
  go_enter Try.func241, Try.ntmps241
  go_wp2_with fail
  refine HP.out.mono ?_
  rintro e w1 ⟨v, rfl, ⟨x, rfl, hx1, hx2⟩, hcur, hg⟩
  obtain ⟨k0, rfl⟩ : ∃ k : Nat, x = (k : Int) := ⟨x.toNat, by omega⟩
  have HCU := Lib.hid hcur
  have HG := Lib.hid hg
  clear hcur hg
  go_wp2
  go_loopw [1, 7] (fun o t wr => ∃ (k : Nat) (out : ByteArray) (Tc : Nat), o = .string out ∧ t = .int .i64 (k : Int) ∧ k ≤ 2 ∧ out.size + k ≤ t0.size + 2 ∧ Tc + 6 * k ≤ T + 14 ∧ Hid (Cur wr g A len cap Tc) ∧ Hid (w.grownBy wr (some g))) (fun _ t _ => (intOf t).toNat)
  case atStart => exact ⟨k0 + 1, t0, T + 2, rfl, by go_num, by omega, by omega, by omega, HCU, HG⟩
  case round =>
    obtain ⟨k, out, Tc, rfl, rfl, hk2, hsz, hTc, HC, HGR⟩ := hrel
    by_cases hlt : 0 < k
    · by_cases h0 : 0 < out.size
      · have HP1 := Lib.hid (pick_any wr g A len cap Tc (out.size : Nat) (by omega) HC.out (by omega) hl)
        clear hx1 hx2
        go_wp2_with fail
        refine HP1.out.mono ?_
        rintro e w2 ⟨v, rfl, ⟨x, rfl, hx1, hx2⟩, hcur, hg⟩
        obtain ⟨i, rfl⟩ : ∃ k : Nat, x = (k : Int) := ⟨x.toNat, by omega⟩
        have hi : i < out.size := by omega
        have HP2 := Lib.hid (pick_any w2 g A len cap (Tc + 2) (W0.size : Nat) (by omega) hcur (by omega) hl)
        have HG2 := Lib.hid (grown_trans' HGR.out hg)
        clear hcur hg hx1 hx2
        go_wp2_with fail
        refine HP2.out.mono ?_
        rintro e w3 ⟨v, rfl, ⟨x, rfl, hx1, hx2⟩, hcur, hg⟩
        obtain ⟨j, rfl⟩ : ∃ k : Nat, x = (k : Int) := ⟨x.toNat, by omega⟩
        have hj : j < W0.size := by omega
        have hcv := run_one_byte w3 (W0[j]).toNat (UInt8.toNat_lt _)
        have HG3 := Lib.hid (grown_trans' HG2.out hg)
        have HP3 := Lib.hid (pick_any (w3.alloc (.cells #[.int .u8 (((W0[j]).toNat : Nat) : Int)] 5)) g A len cap (Tc + 4) 3 (by omega) (hcur.alloc _) (by omega) hl)
        have hb1 := size1 (UInt8.ofNat (W0[j]).toNat)
        generalize (⟨#[UInt8.ofNat (W0[j]).toNat]⟩ : ByteArray) = bb at *
        clear hcur hg hx1 hx2
        go_wp2_with fail
        refine HP3.out.mono ?_
        rintro e w4 ⟨v, rfl, ⟨x, rfl, hx1, hx2⟩, hcur, hg⟩
        have HG4 := Lib.hid (grown_trans' (grown_alloc' HG3.out _) hg)
        have HCU4 := Lib.hid hcur
        clear hcur hg hcv
        have hx : x = 0 ∨ x = 1 ∨ x = 2 := by omega
        clear hx1 hx2
        have hi1 : i ≤ out.size := by omega
        have hi2 : i + 1 ≤ out.size := by omega
        have e1 := ext_size2 out 0 i hi1
        have e2 := ext_size2 out i out.size (Nat.le_refl _)
        have e3 := ext_size2 out (i + 1) out.size (Nat.le_refl _)
        rcases hx with rfl | rfl | rfl
        · go_wp2
          go_quiet (fail)
          go_wp2
          go_roundw
          case rel => exact ⟨k - 1, out.extract 0 i ++ bb ++ out.extract i out.size, Tc + 6, rfl, by go_num, by omega, by simp only [ByteArray.size_append]; omega, by omega, Lib.hid (HCU4.out.drewN _), Lib.hid (grown_drewN HG4.out _)⟩
          case measure => simp [intOf]; omega
        · go_wp2
          go_quiet (fail)
          go_wp2
          go_roundw
          case rel => exact ⟨k - 1, out.extract 0 i ++ bb ++ out.extract (i + 1) out.size, Tc + 6, rfl, by go_num, by omega, by simp only [ByteArray.size_append]; omega, by omega, Lib.hid (HCU4.out.drewN _), Lib.hid (grown_drewN HG4.out _)⟩
          case measure => simp [intOf]; omega
        · go_wp2
          go_quiet (fail)
          go_wp2
          go_roundw
          case rel => exact ⟨k - 1, out.extract 0 i ++ out.extract (i + 1) out.size, Tc + 6, rfl, by go_num, by omega, by simp only [ByteArray.size_append]; omega, by omega, Lib.hid (HCU4.out.drewN _), Lib.hid (grown_drewN HG4.out _)⟩
          case measure => simp [intOf]; omega
      · have hz : out.size = 0 := by omega
        have b1 : decide ((0 : Int) < (out.size : Int)) = false := decide_eq_false (by omega)
        go_wp2
        go_ret
        exact ⟨_, rfl, ⟨out, rfl, by unfold SizeTo; omega⟩, HC.out.mono (by omega), HGR.out⟩
    · obtain rfl : k = 0 := by omega
      go_wp2
      go_ret
      exact ⟨_, rfl, ⟨out, rfl, by unfold SizeTo; omega⟩, HC.out.mono (by omega), HGR.out⟩
def strLen : Value → Nat
  | .string s => s.size
  | _ => 0
theorem rowPairs (w : World) : RowS (w.alloc (.cells #[.string ⟨#[85, 68]⟩, .string ⟨#[68, 85]⟩, .string ⟨#[85, 85]⟩] 9)) w.heap.size 3 (fun s => s.size = 2) := by
  refine ⟨by simp, fun j hj => ?_⟩
  match j, hj with
  | 0, _ => exact ⟨⟨#[85, 68]⟩, rfl, by simp⟩
  | 1, _ => exact ⟨⟨#[68, 85]⟩, rfl, by simp⟩
  | 2, _ => exact ⟨⟨#[85, 85]⟩, rfl, by simp⟩
set_option maxRecDepth 100000 in
set_option maxHeartbeats 4000000 in
theorem anyPath_any (w : World) (g : Nat) (A : Option Addr) (len cap T most : Nat) (hm : most ≤ 40) (hc : Cur w g A len cap T) (hT : T ≤ 100000000) (hl : len ≤ 1099511627776) :
    Calls Try.prog 153 #[.pointer (some ⟨g, 0, none⟩), .int .i64 (most : Nat)] w (CurRet w g A len cap (T + 1000) (StrP (SizeTo 50))) := by
  have HP := Lib.hid (pick_any w g A len cap T 16 (by omega) hc (by omega) hl)
  clear hc
  go_enter Try.func153, Try.ntmps153
  go_wp2_with fail
  refine HP.out.mono ?_
  rintro e w1 ⟨v, rfl, ⟨x, rfl, hx1, hx2⟩, hcur, hg⟩
  have HCU := Lib.hid hcur
  have HG := Lib.hid hg
  clear hcur hg HP
  have h5 : (5 : Nat) = (⟨#[85, 68, 88, 32, 117]⟩ : ByteArray).size := rfl
  by_cases h0 : x = 0
  · subst h0
    have HPA := Lib.hid (path_any w1 g A len cap (T + 2) most (by omega) HCU.out (by omega) hl)
    go_wp2_with fail
    refine HPA.out.mono ?_
    rintro e w2 ⟨v, rfl, ⟨s, rfl, hs⟩, hcur, hg⟩
    have hs : s.size ≤ most := hs
    have HSP := Lib.hid (spoilt_any w2 g A len cap (T + 2 + 2 + 2 * most) s ⟨#[85, 68, 88, 32, 117]⟩ (by omega) ⟨by rw [← h5]; omega, by rw [← h5]; omega⟩ hcur (by omega) hl)
    have HG2 := Lib.hid (grown_trans' HG.out hg)
    clear hcur hg
    go_wp2_with fail
    refine HSP.out.mono ?_
    rintro e w3 ⟨v, rfl, ⟨s2, rfl, hs2⟩, hcur, hg⟩
    have hs2 : s2.size ≤ s.size + 2 := hs2
    have HCU3 := Lib.hid hcur
    have HG3 := Lib.hid (grown_trans' HG2.out hg)
    clear hcur hg
    go_wp2
    go_ret
    exact ⟨_, rfl, ⟨s2, rfl, by unfold SizeTo; omega⟩, HCU3.out.mono (by omega), HG3.out⟩
  · have b0 : (x == 0) = false := beq_eq_false_iff_ne.2 h0
    by_cases h1 : x = 1
    · subst h1
      clear b0 h0
      go_wp2
      go_loopw [5] (fun o wr => ∃ (out : ByteArray) (Tc : Nat), o = .string out ∧ out.size ≤ 43 ∧ Tc + 2 * (44 - out.size) ≤ T + 100 ∧ Hid (Cur wr g A len cap Tc) ∧ Hid (w.grownBy wr (some g))) (fun o _ => 44 - strLen o)
      case atStart => exact ⟨⟨#[]⟩, T + 2, rfl, by show 0 ≤ 43; omega, by show T + 2 + 2 * (44 - 0) ≤ T + 100; omega, HCU, HG⟩
      case round =>
        obtain ⟨out, Tc, rfl, hsz, hTc, HC, HGR⟩ := hrel
        have HP1 := Lib.hid (pick_any wr g A len cap Tc 2 (by omega) HC.out (by omega) hl)
        clear hx1 hx2
        go_wp2_with fail
        refine HP1.out.mono ?_
        rintro e w2 ⟨v, rfl, ⟨x, rfl, hx1, hx2⟩, hcur, hg⟩
        have HG2 := Lib.hid (grown_trans' HGR.out hg)
        have hgl := hcur.lt
        have HC2 := Lib.hid hcur
        have HOF := Lib.hid (of_any (fun s => s.size = 2) (w2.alloc (.cells #[.string ⟨#[85, 68]⟩, .string ⟨#[68, 85]⟩, .string ⟨#[85, 85]⟩] 9)) g A len cap (Tc + 2) w2.heap.size 3 3 (by omega) (rowPairs w2) (by omega) (hcur.alloc _) (by omega) hl)
        clear hcur hg
        by_cases hlt : (out.size : Int) < 40 + x
        · go_wp2_with fail
          refine HOF.out.mono ?_
          rintro e w3 ⟨v, rfl, ⟨s, rfl, hs⟩, hcur, hg⟩
          have hs : s.size = 2 := hs
          have HC3 := Lib.hid hcur
          have HG3 := Lib.hid (grown_trans' (grown_alloc' HG2.out _) hg)
          clear hcur hg
          go_wp2
          go_roundw
          case rel => exact ⟨out ++ s, Tc + 4, rfl, by rw [ByteArray.size_append]; omega, by rw [ByteArray.size_append]; omega, HC3, HG3⟩
          case measure => simp [strLen, ByteArray.size_append]; omega
        · go_wp2
          go_ret
          exact ⟨_, rfl, ⟨out, rfl, by unfold SizeTo; omega⟩, HC2.out.mono (by omega), HG2.out⟩
    · have b1 : (x == 1) = false := beq_eq_false_iff_ne.2 h1
      by_cases h6 : x ≤ 6
      · have HGP := Lib.hid (goodPath_any w1 g A len cap (T + 2) (most / 2) (by omega) HCU.out (by omega) hl)
        have hx : x = 2 ∨ x = 3 ∨ x = 4 ∨ x = 5 ∨ x = 6 := by omega
        clear b0 b1 h0 h1 h6 hx1 hx2
        rcases hx with rfl | rfl | rfl | rfl | rfl
        all_goals
          go_wp2_with fail
          refine HGP.out.mono ?_
          rintro e w2 ⟨v, rfl, ⟨s, rfl, hs⟩, hcur, hg⟩
          have hs : s.size ≤ 2 * (most / 2) := hs
          have HC3 := Lib.hid hcur
          have HG3 := Lib.hid (grown_trans' HG.out hg)
          clear hcur hg
          go_wp2
          go_ret
          exact ⟨_, rfl, ⟨s, rfl, by unfold SizeTo; omega⟩, HC3.out.mono (by omega), HG3.out⟩
      · have b2 : (x == 2) = false := beq_eq_false_iff_ne.2 (by omega)
        have b3 : (x == 3) = false := beq_eq_false_iff_ne.2 (by omega)
        have b4 : (x == 4) = false := beq_eq_false_iff_ne.2 (by omega)
        have b5 : (x == 5) = false := beq_eq_false_iff_ne.2 (by omega)
        have b6 : (x == 6) = false := beq_eq_false_iff_ne.2 (by omega)
        have HPA := Lib.hid (path_any w1 g A len cap (T + 2) most (by omega) HCU.out (by omega) hl)
        clear h0 h1 h6
        go_wp2_with fail
        refine HPA.out.mono ?_
        rintro e w2 ⟨v, rfl, ⟨s, rfl, hs⟩, hcur, hg⟩
        have hs : s.size ≤ most := hs
        have HC3 := Lib.hid hcur
        have HG3 := Lib.hid (grown_trans' HG.out hg)
        clear hcur hg
        go_wp2
        go_ret
        exact ⟨_, rfl, ⟨s, rfl, by unfold SizeTo; omega⟩, HC3.out.mono (by omega), HG3.out⟩
end Go.Proofs.Ytachijliaedndaa
