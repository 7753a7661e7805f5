/- Pack 36 of what FnExactFirstApart needs: WmI, ShMath. -/
import Derived.Test.YtnlmjeakdjmohaaKFnExactFirstApart35
/- The program's WaysMatrix. -/
namespace Go.Proofs.Ytnlmjeakdjmohaa
open Go.RowKit
set_option linter.unusedVariables false
set_option maxRecDepth 100000 in
set_option maxHeartbeats 4000000 in
theorem waysMatrixI_ret (v1 v2 : Value) (n m : Nat) (xs ys : List Int) (w : World) (h1 : RCels w v1 n xs) (h2 : RCels w v2 m ys) (hn : n ≤ 1048576) (hm : m ≤ 1048576) :
    Calls Try.prog 117 #[v1, v2] w (TabsRet w (gdB n xs m ys) (wyT n xs m ys)) := by
  have HG := Lib.hid (areEnds_any v1 v2 n m xs ys w h1 h2 hn hm)
  rcases Bool.eq_false_or_eq_true (gdB n xs m ys) with a1 | a1
  case inr =>
    have e1 : wyT n xs m ys = [] := by unfold wyT; rw [a1]; rfl
    rw [a1, e1]
    rw [a1] at HG
    obtain ⟨A1, p1, rfl⟩ := h1.shape
    obtain ⟨A2, p2, rfl⟩ := h2.shape
    clear h1 h2 a1 e1
    go_enter Try.func117, Try.ntmps117
    go_wp2_with fail
    refine HG.out.mono ?_
    rintro e w1 ⟨rfl, hb1⟩
    go_wp2_with fail
    go_ret2
    exact ⟨.slice none 0 0, [], rfl, TRow.nil (Nat.le_refl _), hb1⟩
  obtain ⟨hmn, h4, hx, hy⟩ := gdB_of a1
  have e1 : wyT n xs m ys = wmT xs ys m n := by unfold wyT; rw [if_pos a1]
  rw [a1, e1]
  rw [a1] at HG
  have h4m : m ≤ 4 := by omega
  have HC : Hid (∀ i j, i < n → j < m → ∀ w, Calls Try.prog 127 #[celV (xs.getD (i * 2) 0) (xs.getD (i * 2 + 1) 0), celV (ys.getD (j * 2) 0) (ys.getD (j * 2 + 1) 0)] w (Ret w (.tuple #[.int .i64 (wmV xs ys i j), .bool true]))) := Lib.hid fun i j hi hj w => by
    have hok : cyOk (xs.getD (i * 2) 0) (xs.getD (i * 2 + 1) 0) (ys.getD (j * 2) 0) (ys.getD (j * 2 + 1) 0) = true := by
      have a := hx i hi
      have b := hy j hj
      unfold gdC at a b
      unfold cyOk
      rw [a, b]
      rfl
    have := countWaysI_ret (xs.getD (i * 2) 0) (xs.getD (i * 2 + 1) 0) (ys.getD (j * 2) 0) (ys.getD (j * 2 + 1) 0) w
    rw [hok] at this
    unfold cyV at this
    rw [if_pos hok] at this
    exact this
  obtain ⟨A1, p1, rfl⟩ := h1.shape
  obtain ⟨A2, p2, rfl⟩ := h2.shape
  have HR1 := Lib.hid h1
  have HR2 := Lib.hid h2
  clear h1 h2 hx hy a1 e1 hn hm hmn
  have hn := h4
  have hm := h4m
  clear h4 h4m
  go_enter Try.func117, Try.ntmps117
  go_wp2_with fail
  refine HG.out.mono ?_
  rintro e w1 ⟨rfl, hb1⟩
  have HB1 := Lib.hid hb1
  clear hb1 HG
  go_wp2_with fail
  go_loopw [6, 20] (fun l i wr => ∃ (k M : Nat) (vs : List Value), k ≤ n ∧ i = .int .i64 (k : Int) ∧ TRow wr w.heap.size M l vs (wmT xs ys m k) ∧ w.heap.size ≤ M ∧ Below w.heap.size w wr) (fun _ i _ => n - (intOf i).toNat)
  case atStart => exact ⟨0, w.heap.size, [], Nat.zero_le _, rfl, TRow.nil HB1.out.size, Nat.le_refl _, HB1.out⟩
  case round =>
    obtain ⟨k, M, vs, hk, rfl, htr, hM, hb⟩ := hrel
    by_cases hlt : k < n
    · obtain ⟨g1, o1, c1, e1, _, _⟩ := HR1.out.cells (by omega)
      injection e1 with e1 _ e3
      subst e1 e3
      have hr := (HR1.out.below hb).at hlt
      have c0 := hr.1
      have c1 := hr.2
      have HCK := Lib.hid fun j hj => HC.out k j hlt hj
      have i1 : (k : Int) < (n : Int) := by omega
      have i2 : 0 ≤ (k : Int) := by omega
      have HV : Hid (∀ j, wmV xs ys k j = wmV xs ys k j) := Lib.hid fun _ => rfl
      have HSUC := Lib.hid (wmT_succ xs ys m k)
      have hlen : vs.length = k := by rw [htr.len, wmT_length]
      obtain ⟨A, cc, rfl⟩ := htr.out.shape
      have HTR := Lib.hid htr
      have HB := Lib.hid hb
      have HRS := Lib.hid (wmR_succ xs ys k)
      have HRL := Lib.hid (wmR_length xs ys k)
      have HR0 : Hid ([] = wmR xs ys k 0) := Lib.hid rfl
      generalize wmR xs ys k = F at *
      generalize wmV xs ys k = G at *
      generalize xs.getD (k * 2) 0 = x0 at *
      generalize xs.getD (k * 2 + 1) 0 = x1 at *
      generalize wmT xs ys m k = TT at *
      clear htr hb hr
      obtain ⟨w0, rfl⟩ : ∃ w0, w0 = wr := ⟨_, rfl⟩
      go_wp2_with fail
      have hh : ∃ h, h = w0.heap.size := ⟨_, rfl⟩
      obtain ⟨h, hh⟩ := hh
      have HI0 : Hid (MxI w0 h x0 x1 (.slice none 0 0) [] (w0.alloc (.cells #[.int .i64 x0, .int .i64 x1] 39))) := Lib.hid (by
        subst hh
        exact ⟨IRow.nil _ _, QB.new w0 x0 x1 39, (Below.refl _ _).alloc (Nat.le_refl _) _⟩)
      rw [← hh]
      have HH := Lib.hid hh
      clear hh c0 c1
      go_loopw [9, 26] (fun l i wq => ∃ p : Nat, p ≤ m ∧ i = .int .i64 (p : Int) ∧ MxI w0 h x0 x1 l (F p) wq) (fun _ i _ => m - (intOf i).toNat)
      case atStart => exact ⟨0, Nat.zero_le _, rfl, by rw [← HR0.out]; exact HI0.out⟩
      case round =>
        obtain ⟨p, hp, rfl, hin⟩ := hrel
        clear HI0 HR0
        have hbw : Below w0.heap.size w0 wr := by rw [← HH.out]; exact hin.below
        by_cases hlp : p < m
        · obtain ⟨g2, o2, c2, e1, _, _⟩ := HR2.out.cells (by omega)
          injection e1 with e1 _ e3
          subst e1 e3
          have hr := ((HR2.out.below HB.out).below hbw).at hlp
          have d0 := hr.1
          have d1 := hr.2
          have HCP := Lib.hid (HCK.out p hlp)
          have HRP := Lib.hid (HRS.out p)
          have HLP := Lib.hid (HRL.out p)
          have j1 : (p : Int) < (m : Int) := by omega
          have j2 : 0 ≤ (p : Int) := by omega
          generalize ys.getD (p * 2) 0 = y0 at *
          generalize ys.getD (p * 2 + 1) 0 = y1 at *
          generalize G p = u at *
          obtain ⟨A3, c3, rfl⟩ := hin.row.shape
          have lt1 := hin.c.lt
          have hin2 := hin.kept HH.out ((Below.refl _ _).alloc (Nat.le_refl _) (.cells #[.int .i64 y0, .int .i64 y1] 39))
          have k0 := hin.c.c0
          have k1 := hin.c.c1
          rw [HLP.out] at hin2
          have HIN := Lib.hid hin2
          clear hr hin hin2 hbw HCK
          rw [HLP.out]
          go_wp2_with (first
            | (go_at_call 127; refine (HCP.out _).mono ?_; rintro e w3 ⟨rfl, hb3⟩; have hin3 := HIN.out.kept HH.out hb3)
            | (at_builtin; refine wpList_push (.tmp 36) (.tmp 38) rfl rfl (h + 1) _ (F p) rfl hin3.row rfl (by rw [HLP.out]; omega) (by have := hin3.c.lt; omega) ?_; intro v' w' hr' hg' hat'))
          have HP := Lib.hid (hin3.push hr' hg')
          clear hin3 hr' hg' hat' hb3
          go_roundw
          case rel => exact ⟨p + 1, by omega, by go_num, by rw [HRP.out]; exact HP.out⟩
          case measure => first | (simp [intOf]; done) | (simp [intOf]; omega)
        · obtain rfl : p = m := by omega
          have ht1 := HTR.out.below hbw
          rw [hlen] at ht1
          have hMw : M ≤ h + 1 := by have := HTR.out.size; have := HH.out; omega
          have hws : w.heap.size ≤ wr.heap.size := Nat.le_trans HB.out.size hbw.size
          have hr1 := hin.row.mono hMw
          have HLP := Lib.hid (HRL.out p)
          have HBW := Lib.hid (HB.out.trans (hbw.mono HB.out.size))
          obtain ⟨A3, c3, rfl⟩ := hr1.shape
          have HSU : Hid (wmT xs ys p (k + 1) = TT ++ [F p]) := Lib.hid HSUC.out
          generalize F p = row at *
          rw [HLP.out] at hr1 ⊢
          clear hin hbw
          go_wp2_with (at_builtin; refine wpList_pushV (.tmp 41) (.tmp 43) rfl rfl w.heap.size _ vs rfl (ht1.out.alloc _) wr.heap.size (.slice A3 p c3) rfl (by simp) rfl (by omega) (by simp; omega) ?_; intro v3 w3 hr3 hg3 hat3)
          have hgl := grown_alloc_left hg3
          have HT3 := Lib.hid (ht1.push hr1 hM hr3 hgl (hat_allocM hat3))
          have HB3 := Lib.hid (HBW.out.grown hgl hws (fun q hq => (ht1.outB q hq).1))
          have hz3 := HB3.out.size
          clear ht1 hr1 hr3 hg3 hat3 hgl
          go_roundw
          case rel => exact ⟨k + 1, w3.heap.size, _, by omega, by go_num, by rw [HSU.out]; exact HT3.out, hz3, HB3.out⟩
          case measure => first | (simp [intOf]; done) | (simp [intOf]; omega)
    · obtain rfl : k = n := by omega
      have HTR := Lib.hid (htr.mono (Nat.le_refl _) htr.size (Nat.le_refl _))
      have HB := Lib.hid hb
      obtain ⟨A5, c5, rfl⟩ := htr.out.shape
      clear htr hb
      go_wp2_with fail
      go_ret2
      exact ⟨_, _, rfl, HTR.out, HB.out⟩
end Go.Proofs.Ytnlmjeakdjmohaa

/- Shifted moments: sums with binomial numbers. -/
namespace Go.Proofs.Ytnlmjeakdjmohaa
open Go.RowKit
set_option linter.unusedVariables false
/-- the sum for n, its first t parts, from the last moment down -/
def shP (k : Int) (ms : List Int) (n : Nat) : Nat → Int
  | 0 => 0
  | t + 1 => shP k ms n t + ((chs n (n - t) : Nat) : Int) * k ^ t * ms.getD (n - t) 0
theorem shP_succ (k : Int) (ms : List Int) (n t : Nat) : shP k ms n (t + 1) = shP k ms n t + ((chs n (n - t) : Nat) : Int) * k ^ t * ms.getD (n - t) 0 := rfl
/-- the moments if k is added to all weights -/
def shL (ms : List Int) (k : Int) : List Int := fr (fun n => shP k ms n (n + 1)) ms.length
theorem abs_mul {x y : Int} {A B : Nat} (hx : -(A : Int) ≤ x ∧ x ≤ A) (hy : -(B : Int) ≤ y ∧ y ≤ B) : -((A * B : Nat) : Int) ≤ x * y ∧ x * y ≤ ((A * B : Nat) : Int) := by
  have h1 : x.natAbs ≤ A := by omega
  have h2 : y.natAbs ≤ B := by omega
  have h3 : (x * y).natAbs ≤ A * B := by rw [Int.natAbs_mul]; exact Nat.mul_le_mul h1 h2
  omega
theorem pow_abs {k : Int} {A : Nat} (hk : -(A : Int) ≤ k ∧ k ≤ A) : ∀ t : Nat, -((A ^ t : Nat) : Int) ≤ k ^ t ∧ k ^ t ≤ ((A ^ t : Nat) : Int)
  | 0 => by simp
  | t + 1 => by
    rw [Int.pow_succ, Nat.pow_succ]
    exact abs_mul (pow_abs hk t) hk
theorem pow9 {k : Int} (hk : -9 ≤ k ∧ k ≤ 9) {t : Nat} (ht : t ≤ 8) : -43046721 ≤ k ^ t ∧ k ^ t ≤ 43046721 := by
  have h1 := pow_abs (k := k) (A := 9) (by omega) t
  have h2 : (9 : Nat) ^ t ≤ 9 ^ 8 := Nat.pow_le_pow_right (by omega) ht
  have h3 : (9 : Nat) ^ 8 = 43046721 := by decide
  omega
theorem pow97 {k : Int} (hk : -9 ≤ k ∧ k ≤ 9) {t : Nat} (ht : t ≤ 7) : -4782969 ≤ k ^ t ∧ k ^ t ≤ 4782969 := by
  have h1 := pow_abs (k := k) (A := 9) (by omega) t
  have h2 : (9 : Nat) ^ t ≤ 9 ^ 7 := Nat.pow_le_pow_right (by omega) ht
  have h3 : (9 : Nat) ^ 7 = 4782969 := by decide
  omega
theorem chs7 {n i : Nat} (hn : n ≤ 7) : 0 ≤ ((chs n i : Nat) : Int) ∧ ((chs n i : Nat) : Int) ≤ 128 := by
  have h1 := chs_le n i
  have h2 : (2 : Nat) ^ n ≤ 2 ^ 7 := Nat.pow_le_pow_right (by omega) hn
  have h3 : (2 : Nat) ^ 7 = 128 := by decide
  omega
theorem sh_c {n i t : Nat} {k : Int} (hn : n ≤ 7) (hk : -9 ≤ k ∧ k ≤ 9) (ht : t ≤ 7) : -612220032 ≤ ((chs n i : Nat) : Int) * k ^ t ∧ ((chs n i : Nat) : Int) * k ^ t ≤ 612220032 := by
  have h1 := chs7 (n := n) (i := i) hn
  have h2 := pow97 hk ht
  have h3 := abs_mul (A := 128) (B := 4782969) (x := ((chs n i : Nat) : Int)) (y := k ^ t) (by omega) (by omega)
  omega
theorem sh_t {n i t : Nat} {k m : Int} (hn : n ≤ 7) (hk : -9 ≤ k ∧ k ≤ 9) (ht : t ≤ 7) (hm : -1000000000 ≤ m ∧ m ≤ 1000000000) :
    -612220032000000000 ≤ ((chs n i : Nat) : Int) * k ^ t * m ∧ ((chs n i : Nat) : Int) * k ^ t * m ≤ 612220032000000000 := by
  have h1 := sh_c (i := i) hn hk ht
  have h3 := abs_mul (A := 612220032) (B := 1000000000) (x := ((chs n i : Nat) : Int) * k ^ t) (y := m) (by omega) (by omega)
  omega
theorem sh_p {k : Int} {ms : List Int} {n : Nat} (hn : n ≤ 7) (hk : -9 ≤ k ∧ k ≤ 9) (hm : ∀ i, i ≤ n → -1000000000 ≤ ms.getD i 0 ∧ ms.getD i 0 ≤ 1000000000) : ∀ t, t ≤ n + 1 → -(612220032000000000 * (t : Int)) ≤ shP k ms n t ∧ shP k ms n t ≤ 612220032000000000 * (t : Int)
  | 0, _ => by simp [shP]
  | t + 1, ht => by
    have h1 := sh_p hn hk hm t (by omega)
    have h2 := sh_t (n := n) (i := n - t) hn hk (show t ≤ 7 by omega) (hm (n - t) (by omega))
    rw [shP_succ]
    generalize ((chs n (n - t) : Nat) : Int) * k ^ t * ms.getD (n - t) 0 = x at *
    omega
def momB (xs : List Int) : Bool := inBd 1 8 (xs.length : Nat) && allB xs (-1000000000) 1000000000
theorem momB_of {xs : List Int} (h : momB xs = true) : (1 ≤ xs.length ∧ xs.length ≤ 8) ∧ ∀ k, k < xs.length → -1000000000 ≤ xs.getD k 0 ∧ xs.getD k 0 ≤ 1000000000 := by
  unfold momB allB inBd at h
  simp only [Bool.and_eq_true, decide_eq_true_eq, List.all_eq_true] at h
  refine ⟨by omega, fun k hk => ?_⟩
  rw [List.getD_eq_getElem?_getD, List.getElem?_eq_getElem hk]
  exact h.2 _ (List.getElem_mem hk)
def shOk (ms : List Int) (k : Int) : Bool := (momB ms && inBd (-9) 9 k) && momB (shL ms k)
def shV (ms : List Int) (k : Int) : List Int := if shOk ms k = true then shL ms k else []
end Go.Proofs.Ytnlmjeakdjmohaa
