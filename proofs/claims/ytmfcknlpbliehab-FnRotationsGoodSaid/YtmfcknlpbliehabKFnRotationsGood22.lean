/- Pack 22 of what FnRotationsGood needs: HasL, RotD. -/
import Derived.Test.YtmfcknlpbliehabKFnRotationsGood21
/- The laws' own words: whether a number is in a list, how often a byte is in a text. -/
namespace Go.Proofs.Ytmfcknlpbliehab
open Go.RowKit
set_option linter.unusedVariables false
set_option maxHeartbeats 800000 in
theorem xHas_any (v : Value) (xs : List Int) (n : Int) (B : Nat) (w : World) (h1 : IRow w B v xs) (hl : xs.length ≤ 1000000) :
    Calls Try.prog 17 #[v, .int .i64 n] w fun e w' => e = .returned (.bool (decide (n ∈ xs))) ∧ w = w' := by
  obtain ⟨A1, c1, rfl⟩ := h1.shape
  generalize hn : xs.length = m at *
  have HN := Lib.hid hn
  have H1 := Lib.hid h1
  clear h1 hn
  go_enter Try.func17, Try.ntmps17
  go_wp2
  go_loop [9] (fun i => ∃ k : Nat, k ≤ m ∧ i = .int .i64 k ∧ ∀ j, j < k → xs.getD j 0 ≠ n) (fun i => m - (intOf i).toNat)
  case atStart => exact ⟨0, Nat.zero_le _, rfl, fun j hj => absurd hj (by omega)⟩
  case round =>
    obtain ⟨k, hk, rfl, hno⟩ := hrel
    have HNO := Lib.hid hno
    clear hno
    by_cases hlt : k < m
    · obtain ⟨g1, c2, hv, _, _⟩ := H1.out.form' HN.out (by omega)
      have hA : A1 = some ⟨g1, 0, none⟩ := by injection hv
      subst hA
      clear hv
      have HL : Hid (k < xs.length) := Lib.hid (by rw [HN.out]; exact hlt)
      have e1 := H1.out.cell HL.out
      by_cases he : xs.getD k 0 = n
      · have HE : Hid (decide (n ∈ xs) = true) := Lib.hid (decide_eq_true (he ▸ mem_getD HL.out))
        rw [he] at e1
        clear he
        go_wp2
        go_ret
        exact ⟨ret_bool HE.out.symm, rfl⟩
      · have HNN : Hid (∀ j, j < k + 1 → xs.getD j 0 ≠ n) := Lib.hid fun j hj => by
          by_cases e : j = k
          · subst e; exact he
          · exact HNO.out j (by omega)
        have q : (xs.getD k 0 == n) = false := by simpa using he
        generalize xs.getD k 0 = x at *
        clear he
        go_wp2
        go_round
        case rel => exact ⟨k + 1, by omega, by go_num, HNN.out⟩
        case measure => simp [intOf]; omega
    · obtain rfl : k = m := by omega
      have HE : Hid (decide (n ∈ xs) = false) := Lib.hid (decide_eq_false fun h => by
        obtain ⟨j, hj, e⟩ := List.mem_iff_getElem.1 h
        have := HNO.out j (by rw [← HN.out]; exact hj)
        rw [List.getD_eq_getElem?_getD, List.getElem?_eq_getElem hj] at this
        exact this e)
      go_wp2
      go_ret
      exact ⟨ret_bool HE.out.symm, rfl⟩
def cntC (s : ByteArray) (c : Nat) : Nat → Nat
  | 0 => 0
  | k + 1 => cntC s c k + (if h : k < s.size then (if s[k].toNat = c then 1 else 0) else 0)
theorem cntC_le (s : ByteArray) (c : Nat) : ∀ k, cntC s c k ≤ k
  | 0 => Nat.le_refl _
  | k + 1 => by have := cntC_le s c k; rw [cntC]; split <;> (try split) <;> omega
theorem mg_cnt (s : ByteArray) (k : Int) (hp : ∀ j (h : j < s.size), isUD s[j] = true) : ∀ j, j ≤ s.size → mg s k j = ((cntC s 85 j : Nat) : Int) - k * ((cntC s 68 j : Nat) : Int)
  | 0, _ => by rw [mg_zero]; simp [cntC]
  | j + 1, h => by
    have hj : j < s.size := by omega
    rw [mg_succ s k j hj, mg_cnt s k hp j (by omega), cntC, cntC, dif_pos hj, dif_pos hj]
    have hu := hp j hj
    have h2 : s[j].toNat = 85 ∨ s[j].toNat = 68 := by
      unfold isUD at hu
      rw [Bool.or_eq_true, beq_iff_eq, beq_iff_eq] at hu
      rcases hu with e | e <;> rw [e]
      · exact .inl rfl
      · exact .inr rfl
    rcases h2 with e | e
    · rw [e]
      rw [show stepK k ((85 : Nat) : Int) = 1 from stepK_u rfl, if_pos rfl, if_neg (by omega)]
      simp only [Nat.add_zero, Int.natCast_add]
      omega
    · rw [e]
      rw [show stepK k ((68 : Nat) : Int) = -k from stepK_d (by omega), if_neg (by omega), if_pos rfl]
      simp only [Nat.add_zero, Int.natCast_add]
      rw [show ((1 : Nat) : Int) = 1 from rfl, Int.mul_add]
      omega
set_option maxHeartbeats 800000 in
theorem xCount_any (s : ByteArray) (c : Nat) (w : World) (hs : s.size ≤ 1000000) (hc : c ≤ 255) :
    Calls Try.prog 23 #[.string s, .int .u8 (c : Int)] w fun e w' => e = .returned (.int .i64 ((cntC s c s.size : Nat) : Int)) ∧ w = w' := by
  go_enter Try.func23, Try.ntmps23
  go_wp2
  go_loop [5, 6] (fun n i => ∃ k : Nat, k ≤ s.size ∧ i = .int .i64 k ∧ n = .int .i64 ((cntC s c k : Nat) : Int)) (fun _ i => s.size - (intOf i).toNat)
  case atStart => exact ⟨0, Nat.zero_le _, rfl, rfl⟩
  case round =>
    obtain ⟨k, hk, rfl, rfl⟩ := hrel
    by_cases hlt : k < s.size
    · have hb := cntC_le s c k
      have HS : Hid (cntC s c (k + 1) = cntC s c k + (if s[k].toNat = c then 1 else 0)) := Lib.hid (by rw [cntC, dif_pos hlt])
      by_cases he : s[k].toNat = c
      · have HS2 : Hid (cntC s c (k + 1) = cntC s c k + 1) := Lib.hid (by rw [HS.out, if_pos he])
        generalize cntC s c k = q at *
        go_wp2
        go_round
        case rel => exact ⟨k + 1, by omega, by go_num, by rw [HS2.out]; go_num⟩
        case measure => simp [intOf]; omega
      · have HS2 : Hid (cntC s c (k + 1) = cntC s c k) := Lib.hid (by rw [HS.out, if_neg he, Nat.add_zero])
        have q1 : (((s[k].toNat : Nat) : Int) == ((c : Nat) : Int)) = false := by simp; omega
        have q2 : (s[k].toNat == c) = false := by simpa using he
        generalize cntC s c k = q at *
        go_wp2
        go_round
        case rel => exact ⟨k + 1, by omega, by go_num, by rw [HS2.out]⟩
        case measure => simp [intOf]; omega
    · obtain rfl : k = s.size := by omega
      have hb := cntC_le s c s.size
      go_wp2
      go_ret
      exact ⟨rfl, rfl⟩
end Go.Proofs.Ytmfcknlpbliehab

/- What the law on rotations draws. -/
namespace Go.Proofs.Ytmfcknlpbliehab
open Go.RowKit
set_option linter.unusedVariables false
set_option maxHeartbeats 1000000 in
theorem drawDegs_any (w : World) (A : Option Addr) (len cap : Nat) (hc : CodeAt w w.heap.size A len) (hl : len ≤ 1099511627776) :
    Calls Try.prog 32 #[.slice A len cap] w fun e w' => ∃ v xs, e = .returned v ∧ xs.length ≤ 40 ∧ IRow w' w.heap.size v xs ∧ Below w.heap.size w w' := by
  have HD := Lib.hid (degrees_any _ w.heap.size A len cap 0 8 (by omega) (Cur.new (cap := cap) hc) (by omega) hl)
  clear hc
  go_enter Try.func32, Try.ntmps32
  go_wp2_with fail
  refine HD.out.mono ?_
  rintro e w1 ⟨v, xs, rfl, hxl, hd⟩
  have HR := Lib.hid (hd.r.mono (B' := w.heap.size) (by simp))
  have HB := Lib.hid (below_of_new hd.l)
  clear hd
  go_wp2_with fail
  go_ret
  exact ⟨v, xs, rfl, hxl, HR.out, HB.out⟩
set_option maxHeartbeats 1000000 in
theorem drawGood_any (w : World) (A : Option Addr) (len cap : Nat) (hc : CodeAt w w.heap.size A len) (hl : len ≤ 1099511627776) :
    Calls Try.prog 6 #[.slice A len cap] w fun e w' => ∃ v xs, e = .returned v ∧ xs.length ≤ 40 ∧ IRow w' w.heap.size v xs ∧ Below w.heap.size w w' := by
  have HD := Lib.hid (drawDegs_any w A len cap hc hl)
  clear hc
  go_enter Try.func6, Try.ntmps6
  go_wp2_with fail
  refine HD.out.mono ?_
  rintro e w1 ⟨v, xs, rfl, hxl, hr, hb⟩
  have HR := Lib.hid hr
  have HB := Lib.hid hb
  clear hr hb
  go_wp2_with fail
  go_ret
  exact ⟨v, xs, rfl, hxl, HR.out, HB.out⟩
set_option maxHeartbeats 2000000 in
theorem drawRot_any (w : World) (A : Option Addr) (len cap : Nat) (hc : CodeAt w w.heap.size A len) (hl : len ≤ 1099511627776) :
    Calls Try.prog 21 #[.slice A len cap] w fun e w' => ∃ v xs, ∃ k : Int, e = .returned (.tuple #[v, .int .i64 k]) ∧ xs.length ≤ 40 ∧ (-100 ≤ k ∧ k ≤ 100) ∧ IRow w' w.heap.size v xs ∧ Below w.heap.size w w' := by
  have HD := Lib.hid (degrees_any _ w.heap.size A len cap 0 8 (by omega) (Cur.new (cap := cap) hc) (by omega) hl)
  have hz : (w.alloc (.cells #[.slice A len cap, .int .i64 0, .int .u64 0] 61)).heap.size = w.heap.size + 1 := by simp
  have HP : Hid (∀ (W : World) (T : Nat) (n : Int), 1 ≤ n ∧ n ≤ 1000 → T ≤ 1000000 → Cur W w.heap.size A len cap T → Calls Try.prog 49 #[.pointer (some ⟨w.heap.size, 0, none⟩), .int .i64 n] W (CurRet W w.heap.size A len cap (T + 2) (IntTo n))) := Lib.hid fun W T n hn hT h => pick_any W w.heap.size A len cap T n (by omega) h (by omega) hl
  clear hc
  go_enter Try.func21, Try.ntmps21
  go_wp2_with fail
  refine HD.out.mono ?_
  rintro e w1 ⟨v, xs, rfl, hxl, hd⟩
  obtain ⟨A9, c9, rfl⟩ := hd.r.shape
  have H1 := Lib.hid hd
  clear hd HD
  go_wp2_with fail
  refine (HP.out w1 _ _ (by omega) (by omega) H1.out.c).mono ?_
  rintro e w2 ⟨v2, rfl, ⟨x, rfl, hx1, hx2⟩, hcur, hg⟩
  have H2 := Lib.hid (H1.out.pick hcur hg)
  clear hcur hg H1
  go_wp2_with fail
  refine (HP.out w2 _ 2 (by omega) (by omega) H2.out.c).mono ?_
  rintro e w3 ⟨v3, rfl, ⟨y, rfl, hy1, hy2⟩, hcur, hg⟩
  have H3 := Lib.hid (H2.out.pick hcur hg)
  have HR := Lib.hid (H3.out.r.mono (B' := w.heap.size) (by simp))
  have HB := Lib.hid (below_of_new H3.out.l)
  have HX : Hid (-100 ≤ x - y ∧ x - y ≤ 100) := Lib.hid (by omega)
  clear hcur hg H2 H3
  go_wp2_with fail
  go_ret2
  exact ⟨_, xs, x - y, rfl, hxl, HX.out, HR.out, HB.out⟩
theorem rowRatio (w : World) : RowI (w.alloc (.cells #[.int .i64 0, .int .i64 1, .int .i64 1, .int .i64 2, .int .i64 3, .int .i64 40, .int .i64 41, .int .i64 (-1)] 3)) w.heap.size 8 I64 :=
  rowLit w _ [0, 1, 1, 2, 3, 40, 41, -1] I64 rfl (by intro x hx; simp at hx; unfold I64; omega)
set_option maxHeartbeats 1000000 in
theorem drawRatio_any (w : World) (A : Option Addr) (len cap : Nat) (hc : CodeAt w w.heap.size A len) (hl : len ≤ 1099511627776) :
    Calls Try.prog 18 #[.slice A len cap] w fun e w' => ∃ (s : ByteArray) (n : Int), e = .returned (.tuple #[.string s, .int .i64 n]) ∧ s.size ≤ 50 ∧ I64 n ∧ Below w.heap.size w w' := by
  have HA := Lib.hid (anyPath_any _ w.heap.size A len cap 0 14 (by omega) (Cur.new (cap := cap) hc) (by omega) hl)
  clear hc
  go_enter Try.func18, Try.ntmps18
  go_wp2_with fail
  refine HA.out.mono ?_
  rintro e w1 ⟨v, rfl, ⟨s, rfl, hs⟩, hcur, hg⟩
  have hs : s.size ≤ 50 := hs
  have hgl := hcur.lt
  have HAM := Lib.hid (among_any I64 _ w.heap.size A len cap 1000 w1.heap.size 8 8 (by omega) (rowRatio w1) (by omega) (hcur.alloc _) (by omega) hl)
  have HG := Lib.hid hg
  clear hcur hg
  go_wp2_with fail
  refine HAM.out.mono ?_
  rintro e w2 ⟨v, rfl, ⟨n, rfl, hn⟩, hcur, hg⟩
  have HB := Lib.hid (below_of_new (grown_trans' (grown_alloc' HG.out _) hg))
  have HN := Lib.hid hn
  clear hcur hg hn
  go_wp2
  go_ret2
  exact ⟨s, n, rfl, hs, HN.out, HB.out⟩
end Go.Proofs.Ytmfcknlpbliehab
