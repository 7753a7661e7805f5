/- The model's CountDelannoy. -/
import Derived.Test.YtnmmgpmhpjjehaaDelMath
import Derived.Test.YtnmmgpmhpjjehaaInB
import Derived.Test.YtnmmgpmhpjjehaaOwn
namespace Go.Proofs.Ytnmmgpmhpjjehaa
open Go.RowKit
set_option linter.unusedVariables false
set_option maxRecDepth 100000 in
set_option maxHeartbeats 1600000 in
theorem specDel_ret (a b : Int) (w : World) : Calls Try.prog 23 #[.int .i64 a, .int .i64 b] w (Ret w (.tuple #[.int .i64 (delV a b), .bool (delOk a b)])) := by
  have HA := Lib.hid (in_any a 0 12)
  have HB := Lib.hid (in_any b 0 12)
  have eo : delOk a b = (inB a 0 12 && inB b 0 12) := rfl
  rcases Bool.eq_false_or_eq_true (inB a 0 12) with ha | ha
  case inr =>
    have e1 : delOk a b = false := by rw [eo, ha]; rfl
    have e2 : delV a b = 0 := by unfold delV; rw [e1]; rfl
    rw [e1, e2]
    rw [ha] at HA
    clear e1 e2 eo
    go_enter Try.func23, Try.ntmps23
    go_wp2_with (go_at_call 71; refine (HA.out _).mono ?_; rintro e w' ⟨rfl, rfl⟩)
    go_ret2
    exact ⟨rfl, Below.refl _ _⟩
  rcases Bool.eq_false_or_eq_true (inB b 0 12) with hb | hb
  case inr =>
    have e1 : delOk a b = false := by rw [eo, hb, Bool.and_false]
    have e2 : delV a b = 0 := by unfold delV; rw [e1]; rfl
    rw [e1, e2]
    rw [ha] at HA
    rw [hb] at HB
    have tok1 : True := trivial
    clear e1 e2 eo
    go_enter Try.func23, Try.ntmps23
    go_wp2_with (first | (have _t := tok1; go_at_call 71; clear _t tok1; refine (HA.out _).mono ?_; rintro e w' ⟨rfl, rfl⟩) | (go_at_call 71; refine (HB.out _).mono ?_; rintro e w' ⟨rfl, rfl⟩))
    go_ret2
    exact ⟨rfl, Below.refl _ _⟩
  have e1 : delOk a b = true := by rw [eo, ha, hb]; rfl
  have e2 : delV a b = ((del b.toNat a.toNat : Nat) : Int) := by unfold delV; rw [if_pos e1]
  rw [e1, e2]
  have ha2 := ha
  have hb2 := hb
  unfold inB at ha2 hb2
  simp only [Bool.and_eq_true, decide_eq_true_eq] at ha2 hb2
  obtain ⟨m, rfl⟩ : ∃ m : Nat, a = m := ⟨a.toNat, by omega⟩
  obtain ⟨n, rfl⟩ : ∃ n : Nat, b = n := ⟨b.toNat, by omega⟩
  have hm : m ≤ 12 := by omega
  have hn : n ≤ 12 := by omega
  rw [Int.toNat_natCast, Int.toNat_natCast]
  rw [ha] at HA
  rw [hb] at HB
  clear e1 e2 eo ha hb ha2 hb2
  have tok1 : True := trivial
  obtain ⟨i0, hi0, hz0, hz1, hz2⟩ := info_parts intInfo
  go_enter Try.func23, Try.ntmps23
  go_wp2_with (first
    | (have _t := tok1; go_at_call 71; clear _t tok1; refine (HA.out _).mono ?_; rintro e w' ⟨rfl, rfl⟩)
    | (go_at_call 71; refine (HB.out _).mono ?_; rintro e w' ⟨rfl, rfl⟩)
    | (refine wpList_make_full _ rfl (.tmp 21) (.tmp 21) 40 rfl w.heap.size 3 i0 (.int .i64 0) 1 Try.underlying40 hi0 hz0 hz1 .i64 .i64 _ _ (m + 1) rfl rfl (by omega) (by omega) (by rw [hz2]; omega) (by unfold maxLen; omega) (Nat.le_refl _) ?_; intro w1 hown1 hgrow1))
  have hrow1 : IRow w1 w.heap.size (.slice (some ⟨w.heap.size, 0, none⟩) (m + 1) (m + 1)) (fil (fun _ => 1) (m + 1) 0) :=
    IRow.of_own hown1 (by simp [fil_length]) (by rw [fil_zero, madeOne _ rfl]; simp)
  have hb1 : Below w.heap.size w w1 := (Below.refl _ _).grown hgrow1 (Nat.le_refl _) (by simp)
  clear hown1 hgrow1
  go_loopw [7, 25] (fun q i wr => ∃ j : Nat, j ≤ m + 1 ∧ i = .int .i64 (j : Int) ∧ IRow wr w.heap.size (.slice (some ⟨w.heap.size, 0, none⟩) (m + 1) (m + 1)) (fil (fun _ => 1) (m + 1) j) ∧ Below w.heap.size w wr) (fun _ i _ => m + 1 - (intOf i).toNat)
  case atStart => exact ⟨0, Nat.zero_le _, rfl, hrow1, hb1⟩
  case round =>
    obtain ⟨j, hj, rfl, hrow, hb⟩ := hrel
    by_cases hlt : j < m + 1
    · have hst := (hrow.set j 1).1
      have hf := hrow.free j
      have hc := hrow.cell (j := j) (by rw [fil_length]; omega)
      have HST : Hid (IRow (wr.setCell ⟨w.heap.size, j, none⟩ (.int .i64 1)) w.heap.size (.slice (some ⟨w.heap.size, 0, none⟩) (m + 1) (m + 1)) (fil (fun _ => 1) (m + 1) (j + 1))) := Lib.hid (by rw [← fil_set]; exact hst)
      have i1 : (j : Int) < (m : Int) + 1 := by omega
      clear hrow hst hrow1 hb1
      go_wp2
      go_roundw
      case rel => exact ⟨j + 1, by omega, by go_num, HST.out, hb.setCell (p := ⟨w.heap.size, j, none⟩) (Nat.le_refl _) _⟩
      case measure => simp [intOf]; omega
    · obtain rfl : j = m + 1 := by omega
      rw [fil_full] at hrow
      have HR0 := Lib.hid hrow
      have HB0 := Lib.hid hb
      clear hrow hb hrow1 hb1
      go_wp2
      go_loopw [8] (fun i wq => ∃ y : Nat, y ≤ n ∧ i = .int .i64 (y : Int) ∧ IRow wq w.heap.size (.slice (some ⟨w.heap.size, 0, none⟩) (m + 1) (m + 1)) (fr (fun j => ((del y j : Nat) : Int)) (m + 1)) ∧ Below w.heap.size w wq) (fun i _ => n - (intOf i).toNat)
      case atStart => exact ⟨0, Nat.zero_le _, rfl, HR0.out, HB0.out⟩
      case round =>
        obtain ⟨y, hy, rfl, hrow, hb⟩ := hrel
        by_cases hly : y < n
        · have hc0 := hrow.cell (j := 0) (by rw [fr_length]; omega)
          rw [fr_get _ _ _ (by omega), del_head] at hc0
          rw [delF_one] at hrow
          have HR1 := Lib.hid hrow
          have HB1 := Lib.hid hb
          clear hrow hb
          go_wp2
          go_loopw [9, 10] (fun co i wz => ∃ p : Nat, p ≤ m ∧ i = .int .i64 ((p + 1 : Nat) : Int) ∧ co = .int .i64 ((del y p : Nat) : Int) ∧ IRow wz w.heap.size (.slice (some ⟨w.heap.size, 0, none⟩) (m + 1) (m + 1)) (fr (delF y (p + 1)) (m + 1)) ∧ Below w.heap.size w wz) (fun _ i _ => m + 1 - (intOf i).toNat)
          case atStart => exact ⟨0, Nat.zero_le _, rfl, by rw [del_head]; rfl, HR1.out, HB1.out⟩
          case round =>
            obtain ⟨p, hp, rfl, rfl, hrow, hb⟩ := hrel
            by_cases hlp : p < m
            · have c1 := hrow.cell (j := p + 1) (by rw [fr_length]; omega)
              have c0 := hrow.cell (j := p) (by rw [fr_length]; omega)
              rw [fr_get _ _ _ (by omega)] at c1 c0
              have e1 : delF y (p + 1) (p + 1) = ((del y (p + 1) : Nat) : Int) := by unfold delF; rw [if_neg (by omega)]
              have e0 : delF y (p + 1) p = ((del (y + 1) p : Nat) : Int) := by unfold delF; rw [if_pos (by omega)]
              rw [e1] at c1
              rw [e0] at c0
              have hf := hrow.free (p + 1)
              have hst := (hrow.set (p + 1) ((del (y + 1) (p + 1) : Nat) : Int)).1
              rw [delF_set, del_step] at hst
              have b1 := del_small (y := y) (x := p + 1) (by omega) (by omega)
              have b2 := del_small (y := y + 1) (x := p) (by omega) (by omega)
              have b3 := del_small (y := y) (x := p) (by omega) (by omega)
              have HST := Lib.hid hst
              have HB2 := Lib.hid hb
              clear hrow hb hst e1 e0
              generalize hd1 : del y (p + 1) = d1 at *
              have HD1 := Lib.hid hd1
              clear hd1
              generalize del (y + 1) p = d2 at *
              generalize del y p = d3 at *
              have i1 : (p : Int) + 1 ≤ (m : Int) := by omega
              have i2 : (p : Int) < (m : Int) + 1 := by omega
              have i3 : (p : Int) + 1 < (m : Int) + 1 := by omega
              have i4 : 0 ≤ (p : Int) + 1 := by omega
              go_wp2
              go_roundw
              case rel => exact ⟨p + 1, by omega, by go_num, by rw [HD1.out], by have := HST.out; rw [show ((d1 + d2 + d3 : Nat) : Int) = (d1 : Int) + d2 + d3 by omega] at this; exact this, HB2.out.setCell (p := ⟨w.heap.size, p + 1, none⟩) (Nat.le_refl _) _⟩
              case measure => simp [intOf]; omega
            · obtain rfl : p = m := by omega
              rw [delF_all] at hrow
              have HR2 := Lib.hid hrow
              have HB2 := Lib.hid hb
              clear hrow hb
              have i1 : ¬ (p : Int) + 1 ≤ (p : Int) := by omega
              go_wp2_with fail
              go_roundw
              case rel => exact ⟨y + 1, by omega, by go_num, HR2.out, HB2.out⟩
              case measure => simp [intOf]; omega
        · obtain rfl : y = n := by omega
          have hc0 := hrow.cell (j := m) (by rw [fr_length]; omega)
          rw [fr_get _ _ _ (by omega)] at hc0
          have i1 : (m : Int) < (m : Int) + 1 := by omega
          clear hrow
          go_wp2
          go_ret2
          exact ⟨rfl, hb⟩
end Go.Proofs.Ytnmmgpmhpjjehaa
