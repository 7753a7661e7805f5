/- The model's ShiftMoments. -/
import Derived.Test.YtnmmgpmhpjjehaaShMath
import Derived.Test.YtnmmgpmhpjjehaaDeg
import Derived.Test.YtnmmgpmhpjjehaaChoose
import Derived.Deep.RegionHeld3
import Derived.IntWalk
namespace Go.Proofs.Ytnmmgpmhpjjehaa
open Go.RowKit
set_option linter.unusedVariables false
theorem kiGood_any (v : Value) (xs : List Int) (w : World) (h : RInts w v xs) (hl : xs.length ≤ 1048576) :
    Calls Try.prog 89 #[v] w fun e w' => e = .returned (.bool (momB xs)) ∧ w = w' := by
  have HI : Hid (∀ w, Calls Try.prog 71 #[.int .i64 (xs.length : Nat), .int .i64 1, .int .i64 8] w fun e w' => e = .returned (.bool (inBd 1 8 (xs.length : Nat))) ∧ w = w') := Lib.hid fun w => in_any (xs.length : Nat) 1 8 w
  have HA := Lib.hid (l1All_any v xs (-1000000000) 1000000000 w h hl)
  obtain ⟨A0, cap, rfl⟩ := h.shape
  clear h
  unfold momB
  generalize allB xs (-1000000000) 1000000000 = b at *
  rcases Bool.eq_false_or_eq_true (inBd 1 8 (xs.length : Nat)) with hi | hi
  · rw [hi] at HI ⊢
    go_enter Try.func89, Try.ntmps89
    go_wp2_with (first | (go_at_call 71; refine (HI.out _).mono ?_; rintro e w' ⟨rfl, rfl⟩) | (go_at_call 90; refine HA.out.mono ?_; rintro e w' ⟨rfl, rfl⟩))
    go_ret
    exact ⟨by simp, rfl⟩
  · rw [hi] at HI ⊢
    go_enter Try.func89, Try.ntmps89
    go_wp2_with (go_at_call 71; refine (HI.out _).mono ?_; rintro e w' ⟨rfl, rfl⟩)
    go_ret
    exact ⟨by simp, rfl⟩
/-- what is kept while the sum for one n is made -/
structure ShAt (w0 : World) (B g o i : Nat) (m : Int) (A : Option Addr) (c : Nat) (L : List Int) (W : World) : Prop where
  cell : W.cell? ⟨g, o + i, none⟩ = some (.int .i64 m)
  lt : g < w0.heap.size
  row : IRow W B (.slice A L.length c) L
  below : Below w0.heap.size w0 W
theorem ShAt.kept {w0 W W' : World} {B g o i : Nat} {m : Int} {A : Option Addr} {c : Nat} {L : List Int} (h : ShAt w0 B g o i m A c L W) (hb : Below W.heap.size W W') : ShAt w0 B g o i m A c L W' :=
  ⟨(hb.cell (p := ⟨g, o + i, none⟩) (Nat.lt_of_lt_of_le h.lt h.below.size)).trans h.cell, h.lt, h.row.below hb, h.below.trans (hb.mono h.below.size)⟩
theorem ShAt.drew {w0 W : World} {B g o i : Nat} {m : Int} {A : Option Addr} {c : Nat} {L : List Int} (h : ShAt w0 B g o i m A c L W) : ShAt w0 B g o i m A c L W.drew := ⟨h.cell, h.lt, h.row, below_drewN h.below 1⟩
theorem shKept {w0 W W' : World} {B g o i : Nat} {m : Int} {A : Option Addr} {c : Nat} {L : List Int} (h : W.cell? ⟨g, o + i, none⟩ = some (.int .i64 m) ∧ ShAt w0 B g o i m A c L W) (hb : Below W.heap.size W W') : W'.cell? ⟨g, o + i, none⟩ = some (.int .i64 m) ∧ ShAt w0 B g o i m A c L W' := ⟨(h.2.kept hb).cell, h.2.kept hb⟩
theorem shRow {w0 W : World} {B g o i : Nat} {m : Int} {A : Option Addr} {c : Nat} {L : List Int} (h : W.cell? ⟨g, o + i, none⟩ = some (.int .i64 m) ∧ ShAt w0 B g o i m A c L W) : IRow W B (.slice A L.length c) L := h.2.row
theorem shBel {w0 W : World} {B g o i : Nat} {m : Int} {A : Option Addr} {c : Nat} {L : List Int} (h : W.cell? ⟨g, o + i, none⟩ = some (.int .i64 m) ∧ ShAt w0 B g o i m A c L W) : Below w0.heap.size w0 W := h.2.below
set_option maxRecDepth 100000 in
set_option maxHeartbeats 2000000 in
theorem specShift_ret (v : Value) (ms : List Int) (k : Int) (w : World) (h : RInts w v ms) (hl : ms.length ≤ 1048576) :
    Calls Try.prog 61 #[v, .int .i64 k] w (IntsRet w (shOk ms k) (shV ms k)) := by
  have HG := Lib.hid (kiGood_any v ms w h hl)
  have HI : Hid (∀ w, Calls Try.prog 71 #[.int .i64 k, .int .i64 (-9), .int .i64 9] w fun e w' => e = .returned (.bool (inBd (-9) 9 k)) ∧ w = w') := Lib.hid fun w => in_any k (-9) 9 w
  have H := Lib.hid h
  obtain ⟨A0, cap, rfl⟩ := h.shape
  clear h
  rcases Bool.eq_false_or_eq_true (momB ms) with hm | hm
  case inr =>
    have e1 : shOk ms k = false := by unfold shOk; rw [hm]; rfl
    have e2 : shV ms k = [] := by unfold shV; rw [e1]; rfl
    rw [e1, e2]
    rw [hm] at HG
    clear e1 e2 hm
    go_enter Try.func61, Try.ntmps61
    go_wp2_with (go_at_call 89; refine HG.out.mono ?_; rintro e w' ⟨rfl, rfl⟩)
    go_ret2
    exact ⟨_, rfl, IRow.nil _ _, Below.refl _ _⟩
  rcases Bool.eq_false_or_eq_true (inBd (-9) 9 k) with hi | hi
  case inr =>
    have e1 : shOk ms k = false := by unfold shOk; rw [hm, hi]; rfl
    have e2 : shV ms k = [] := by unfold shV; rw [e1]; rfl
    rw [e1, e2]
    rw [hm] at HG
    rw [hi] at HI
    clear e1 e2 hm hi
    go_enter Try.func61, Try.ntmps61
    go_wp2_with (first | (go_at_call 89; refine HG.out.mono ?_; rintro e w' ⟨rfl, rfl⟩) | (go_at_call 71; refine (HI.out _).mono ?_; rintro e w' ⟨rfl, rfl⟩))
    go_ret2
    exact ⟨_, rfl, IRow.nil _ _, Below.refl _ _⟩
  have hko : -9 ≤ k ∧ k ≤ 9 := by unfold inBd at hi; simpa only [Bool.and_eq_true, decide_eq_true_eq] using hi
  obtain ⟨hn, hb⟩ := momB_of hm
  have HMB := Lib.hid hb
  have EOK : Hid (shOk ms k = momB (shL ms k)) := Lib.hid (by unfold shOk; rw [hm, hi]; rfl)
  have EV : Hid (shV ms k = if momB (shL ms k) = true then shL ms k else []) := Lib.hid (by unfold shV; rw [EOK.out])
  rw [hm] at HG
  rw [hi] at HI
  clear hm hi hb
  go_enter Try.func61, Try.ntmps61
  go_wp2_with (first | (go_at_call 89; refine HG.out.mono ?_; rintro e w' ⟨rfl, rfl⟩) | (go_at_call 71; refine (HI.out _).mono ?_; rintro e w' ⟨rfl, rfl⟩))
  go_loopw [6, 21] (fun o i wr => ∃ n : Nat, n ≤ ms.length ∧ i = .int .i64 (n : Int) ∧ IRow wr w.heap.size o (fr (fun n => shP k ms n (n + 1)) n) ∧ Below w.heap.size w wr) (fun _ i _ => ms.length - (intOf i).toNat)
  case atStart => exact ⟨0, Nat.zero_le _, rfl, IRow.nil _ _, Below.refl _ _⟩
  case round =>
    obtain ⟨n, hnl, rfl, hrow, hb⟩ := hrel
    by_cases hlt : n < ms.length
    · obtain ⟨g, o, cc, hv, hg, hcells⟩ := H.out.cells (by omega)
      have hA : A0 = some ⟨g, o, none⟩ := by injection hv
      subst hA
      clear hv
      have HC := Lib.hid hcells
      obtain ⟨A, c, rfl⟩ := hrow.shape
      have hz := hb.size
      have i1 : (n : Int) < (ms.length : Int) := by omega
      obtain ⟨L, hL⟩ : ∃ L, L = fr (fun n => shP k ms n (n + 1)) n := ⟨_, rfl⟩
      rw [← hL] at hrow
      have hLl : L.length = n := by rw [hL, fr_length]
      rw [← hL]
      have HL := Lib.hid hL
      have HR := Lib.hid hrow
      have HB := Lib.hid hb
      have HLL := Lib.hid hLl
      clear hcells hL hrow hb hLl
      obtain ⟨w0, rfl⟩ : ∃ w0, w0 = wr := ⟨_, rfl⟩
      go_wp2_with fail
      go_loopw [8, 9, 10] (fun x p i wr => ∃ t : Nat, t ≤ n + 1 ∧ i = .int .i64 ((n : Int) - t) ∧ x = .int .i64 (shP k ms n t) ∧ p = .int .i64 (k ^ t) ∧ IRow wr w.heap.size (.slice A L.length c) L ∧ Below w0.heap.size w0 wr) (fun _ _ i _ => (intOf i + 1).toNat)
      case atStart => exact ⟨0, by omega, by go_num, rfl, by rw [Int.pow_zero], HR.out, Below.refl _ _⟩
      case round =>
        obtain ⟨t, ht, rfl, rfl, rfl, hrow, hb⟩ := hrel
        by_cases hlt2 : t ≤ n
        · have e1 := HC.out (n - t) (by omega)
          have e2 : (n : Int) - (t : Int) = ((n - t : Nat) : Int) := by omega
          have b1 := sh_p (k := k) (ms := ms) (n := n) (by omega) hko (fun i hi => HMB.out i (by omega)) t (by omega)
          have b2 := sh_c (n := n) (i := n - t) (k := k) (t := t) (by omega) hko (by omega)
          have b3 := sh_t (n := n) (i := n - t) (k := k) (t := t) (m := ms.getD (n - t) 0) (by omega) hko (by omega) (HMB.out (n - t) (by omega))
          have b4 := pow9 hko (t := t + 1) (by omega)
          rw [Int.pow_succ] at b4
          have HS : Hid (shP k ms n (t + 1) = shP k ms n t + ((chs n (n - t) : Nat) : Int) * k ^ t * ms.getD (n - t) 0) := Lib.hid (shP_succ _ _ _ _)
          have HCH : Hid (∀ w, Calls Try.prog 98 #[.int .i64 (n : Int), .int .i64 ((n - t : Nat) : Int)] w (Ret w (.int .i64 (chs n (n - t) : Nat)))) := Lib.hid fun w => choose_yes n (n - t) w (by omega) (by omega)
          have HPW : Hid (k ^ (t + 1) = k ^ t * k) := Lib.hid (Int.pow_succ _ _)
          have HT : Hid ((((n - t : Nat) : Int)) - 1 = (n : Int) - ((t + 1 : Nat) : Int)) := Lib.hid (by omega)
          have hSA : ShAt w0 w.heap.size g o (n - t) (ms.getD (n - t) 0) A c L wr := ⟨(hb.cell (p := ⟨g, o + (n - t), none⟩) (by show g < w0.heap.size; omega)).trans (by have := (HB.out.cell (p := ⟨g, o + (n - t), none⟩) hg); exact this.trans e1), by omega, hrow, hb⟩
          rw [e2]
          have i2 : ((n - t : Nat) : Int) < (ms.length : Int) := by omega
          have i3 : 0 ≤ ((n - t : Nat) : Int) := by omega
          clear hrow hb e1 e2
          generalize hj : n - t = j at *
          generalize chs n j = ch at *
          generalize k ^ t = p at *
          generalize ms.getD j 0 = m at *
          generalize shP k ms n t = x at *
          have HJ := Lib.hid hj
          clear hj
          have b5 : -612220032000000000 * 8 ≤ x ∧ x ≤ 612220032000000000 * 8 := by omega
          clear b1
          have W1 := Lib.hid (IntWalk.i64_in ((ch : Int) * p) (by omega))
          have W2 := Lib.hid (IntWalk.i64_in ((ch : Int) * p * m) (by omega))
          have W3 := Lib.hid (IntWalk.i64_in (x + (ch : Int) * p * m) (by omega))
          go_wp2_with fail
          go_region_held3 (fun W => W.cell? ⟨g, o + j, none⟩ = some (.int .i64 m) ∧ ShAt w0 w.heap.size g o j m A c L W) (first | exact ⟨hSA.cell, hSA.drew⟩ | exact shKept (by assumption) (by assumption)) (first | (go_at_call 98; refine (HCH.out _).mono ?_; rintro e w' ⟨rfl, hb'⟩))
          go_wp2_with fail
          go_roundw
          case rel => exact ⟨t + 1, by omega, by rw [HT.out], by rw [HS.out, W1.out, W2.out, W3.out], by rw [HPW.out], shRow (by assumption), shBel (by assumption)⟩
          case measure => first | (simp [intOf]; done) | (simp [intOf]; omega)
        · obtain rfl : t = n + 1 := by omega
          have e3 : (n : Int) - ((n + 1 : Nat) : Int) = -1 := by omega
          rw [e3]
          have HB2 : Hid (Below w.heap.size w wr) := Lib.hid (HB.out.trans (hb.mono hz))
          have hsz := HB2.out.size
          have hll := HLL.out
          clear hb e3
          have HLN : Hid (L ++ [shP k ms n (n + 1)] = fr (fun n => shP k ms n (n + 1)) (n + 1)) := Lib.hid (by rw [HL.out]; exact fr_snoc _ _)
          generalize shP k ms n (n + 1) = x at *
          go_wp2_with (at_builtin; refine wpList_push (.tmp 44) (.tmp 46) rfl rfl w.heap.size _ L rfl hrow rfl (by omega) hsz ?_; intro v' w' hrow' hg' hat')
          go_roundw
          case rel => exact ⟨n + 1, by omega, by go_num, by rw [← HLN.out]; exact hrow', HB2.out.grown hg' hsz (fun q hq => (hrow.blk q hq).1)⟩
          case measure => first | (simp [intOf]; done) | (simp [intOf]; omega)
    · obtain rfl : n = ms.length := by omega
      have EL : Hid (fr (fun n => shP k ms n (n + 1)) ms.length = shL ms k) := Lib.hid rfl
      rw [EL.out] at hrow
      have HK := Lib.hid (kiGood_any _ (shL ms k) wr (RInts.of_row hrow) (by unfold shL; rw [fr_length]; exact hl))
      obtain ⟨A, c, rfl⟩ := hrow.shape
      rcases Bool.eq_false_or_eq_true (momB (shL ms k)) with hm | hm
      · have E1 : Hid (shOk ms k = true) := Lib.hid (by rw [EOK.out, hm])
        have E2 : Hid (shV ms k = shL ms k) := Lib.hid (by rw [EV.out, if_pos hm])
        rw [hm] at HK
        have HR := Lib.hid hrow
        have HB := Lib.hid hb
        clear hm hrow hb
        generalize shL ms k = L at *
        go_wp2_with (go_at_call 89; refine HK.out.mono ?_; rintro e w' ⟨rfl, rfl⟩)
        go_ret2
        rw [E1.out, E2.out]
        exact ⟨_, rfl, HR.out, HB.out⟩
      · have E1 : Hid (shOk ms k = false) := Lib.hid (by rw [EOK.out, hm])
        have E2 : Hid (shV ms k = []) := Lib.hid (by rw [EV.out, hm]; rfl)
        rw [hm] at HK
        have HB := Lib.hid hb
        clear hm hrow hb
        generalize shL ms k = L at *
        go_wp2_with (go_at_call 89; refine HK.out.mono ?_; rintro e w' ⟨rfl, rfl⟩)
        go_ret2
        rw [E1.out, E2.out]
        exact ⟨_, rfl, IRow.nil _ _, HB.out⟩
end Go.Proofs.Ytnmmgpmhpjjehaa
