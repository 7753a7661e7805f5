/- Pack 35 of what FnExactFirstApart needs: MxS, WyS. -/
import Derived.Test.YtnlmjeakdjmohaaKFnExactFirstApart34
/- The model's ncMatrix, WaysMatrix. -/
namespace Go.Proofs.Ytnlmjeakdjmohaa
open Go.RowKit
set_option linter.unusedVariables false
theorem hat_allocM {v v' : Value} {w : World} {o : Obj} (h : v'.ownBlock = v.ownBlock ∨ ∃ g, v'.ownBlock = some g ∧ (w.alloc o).heap.size ≤ g) : v'.ownBlock = v.ownBlock ∨ ∃ g, v'.ownBlock = some g ∧ w.heap.size ≤ g := by
  rcases h with h | ⟨g, h1, h2⟩
  · exact .inl h
  · exact .inr ⟨g, h1, by simp at h2; omega⟩
def wmV (xs ys : List Int) (i j : Nat) : Int := ncV (xs.getD (i * 2) 0) (xs.getD (i * 2 + 1) 0) (ys.getD (j * 2) 0) (ys.getD (j * 2 + 1) 0)
def wmR (xs ys : List Int) (i m : Nat) : List Int := (List.range m).map (wmV xs ys i)
def wmT (xs ys : List Int) (m n : Nat) : List (List Int) := (List.range n).map fun i => wmR xs ys i m
theorem wmR_succ (xs ys : List Int) (i m : Nat) : wmR xs ys i (m + 1) = wmR xs ys i m ++ [wmV xs ys i m] := by simp [wmR, List.range_succ]
theorem wmT_succ (xs ys : List Int) (m n : Nat) : wmT xs ys m (n + 1) = wmT xs ys m n ++ [wmR xs ys n m] := by simp [wmT, List.range_succ]
theorem wmR_length (xs ys : List Int) (i m : Nat) : (wmR xs ys i m).length = m := by simp [wmR]
theorem wmT_length (xs ys : List Int) (m n : Nat) : (wmT xs ys m n).length = n := by simp [wmT]
/-- while a row is made -/
structure MxI (w0 : World) (h : Nat) (x0 x1 : Int) (l : Value) (L : List Int) (X : World) : Prop where
  row : IRow X (h + 1) l L
  c : QB h x0 x1 X
  below : Below h w0 X
theorem MxI.kept {w0 X X' : World} {h : Nat} {x0 x1 : Int} {l : Value} {L : List Int} (hh : h = w0.heap.size) (H : MxI w0 h x0 x1 l L X) (hb : Below X.heap.size X X') : MxI w0 h x0 x1 l L X' :=
  ⟨H.row.below hb, H.c.below hb, H.below.trans (hb.mono (by have := H.c.lt; omega))⟩
theorem MxI.push {w0 X X' : World} {h : Nat} {x0 x1 u : Int} {l l' : Value} {L : List Int} (H : MxI w0 h x0 x1 l L X) (hr : IRow X' (h + 1) l' (L ++ [u])) (hg : X.grownBy X' l.ownBlock) : MxI w0 h x0 x1 l' (L ++ [u]) X' := by
  have hlt := H.c.lt
  have hb : Below (h + 1) X X' := (Below.refl _ _).grown hg (by omega) (fun q hq => (H.row.blk q hq).1)
  exact ⟨hr, ⟨(hb.cell (p := ⟨h, 0, none⟩) (Nat.lt_succ_self h)).trans H.c.c0, (hb.cell (p := ⟨h, 1, none⟩) (Nat.lt_succ_self h)).trans H.c.c1, Nat.lt_of_lt_of_le hlt hg.size⟩, H.below.trans (hb.mono (Nat.le_succ h))⟩
set_option maxRecDepth 100000 in
set_option maxHeartbeats 4000000 in
theorem ncMatrix_any (v1 v2 : Value) (n m : Nat) (xs ys : List Int) (w : World) (h1 : RCels w v1 n xs) (h2 : RCels w v2 m ys) (hn : n ≤ 4) (hm : m ≤ 4)
    (hx : ∀ i, i < n → gdC xs i = true) (hy : ∀ j, j < m → gdC ys j = true) :
    Calls Try.prog 114 #[v1, v2] w (TabsNew w (wmT xs ys m n)) := by
  have HC : Hid (∀ i j, i < n → j < m → ∀ w, Calls Try.prog 116 #[celV (xs.getD (i * 2) 0) (xs.getD (i * 2 + 1) 0), celV (ys.getD (j * 2) 0) (ys.getD (j * 2 + 1) 0)] w (Ret w (.int .i64 (wmV xs ys i j)))) := Lib.hid fun i j hi hj w => by
    have a := (cellB_iff _ _).1 (hx i hi)
    have b := (cellB_iff _ _).1 (hy j hj)
    exact ncCount_any _ _ _ _ w (by omega) (by omega) (by omega) (by omega) (by omega)
  have HR1 := Lib.hid h1
  have HR2 := Lib.hid h2
  obtain ⟨A1, p1, rfl⟩ := h1.shape
  obtain ⟨A2, p2, rfl⟩ := h2.shape
  clear h1 h2 hx hy
  go_enter Try.func114, Try.ntmps114
  go_wp2_with fail
  go_loopw [5, 13] (fun l i wr => ∃ (k M : Nat) (vs : List Value), k ≤ n ∧ i = .int .i64 (k : Int) ∧ TRow wr w.heap.size M l vs (wmT xs ys m k) ∧ w.heap.size ≤ M ∧ Below w.heap.size w wr) (fun _ i _ => n - (intOf i).toNat)
  case atStart => exact ⟨0, w.heap.size, [], Nat.zero_le _, rfl, TRow.nil (Nat.le_refl _), Nat.le_refl _, Below.refl _ _⟩
  case round =>
    obtain ⟨k, M, vs, hk, rfl, htr, hM, hb⟩ := hrel
    by_cases hlt : k < n
    · obtain ⟨g1, o1, c1, e1, _, _⟩ := HR1.out.cells (by omega)
      injection e1 with e1 _ e3
      subst e1 e3
      have hr := (HR1.out.below hb).at hlt
      have c0 := hr.1
      have c1 := hr.2
      have HCK := Lib.hid fun j hj => HC.out k j hlt hj
      have i1 : (k : Int) < (n : Int) := by omega
      have i2 : 0 ≤ (k : Int) := by omega
      have HV : Hid (∀ j, wmV xs ys k j = wmV xs ys k j) := Lib.hid fun _ => rfl
      have HSUC := Lib.hid (wmT_succ xs ys m k)
      have hlen : vs.length = k := by rw [htr.len, wmT_length]
      obtain ⟨A, cc, rfl⟩ := htr.out.shape
      have HTR := Lib.hid htr
      have HB := Lib.hid hb
      have HRS := Lib.hid (wmR_succ xs ys k)
      have HRL := Lib.hid (wmR_length xs ys k)
      have HR0 : Hid ([] = wmR xs ys k 0) := Lib.hid rfl
      generalize wmR xs ys k = F at *
      generalize wmV xs ys k = G at *
      generalize xs.getD (k * 2) 0 = x0 at *
      generalize xs.getD (k * 2 + 1) 0 = x1 at *
      generalize wmT xs ys m k = TT at *
      clear htr hb hr
      obtain ⟨w0, rfl⟩ : ∃ w0, w0 = wr := ⟨_, rfl⟩
      go_wp2_with fail
      have hh : ∃ h, h = w0.heap.size := ⟨_, rfl⟩
      obtain ⟨h, hh⟩ := hh
      have HI0 : Hid (MxI w0 h x0 x1 (.slice none 0 0) [] (w0.alloc (.cells #[.int .i64 x0, .int .i64 x1] 39))) := Lib.hid (by
        subst hh
        exact ⟨IRow.nil _ _, QB.new w0 x0 x1 39, (Below.refl _ _).alloc (Nat.le_refl _) _⟩)
      rw [← hh]
      have HH := Lib.hid hh
      clear hh c0 c1
      go_loopw [8, 19] (fun l i wq => ∃ p : Nat, p ≤ m ∧ i = .int .i64 (p : Int) ∧ MxI w0 h x0 x1 l (F p) wq) (fun _ i _ => m - (intOf i).toNat)
      case atStart => exact ⟨0, Nat.zero_le _, rfl, by rw [← HR0.out]; exact HI0.out⟩
      case round =>
        obtain ⟨p, hp, rfl, hin⟩ := hrel
        clear HI0 HR0
        have hbw : Below w0.heap.size w0 wr := by rw [← HH.out]; exact hin.below
        by_cases hlp : p < m
        · obtain ⟨g2, o2, c2, e1, _, _⟩ := HR2.out.cells (by omega)
          injection e1 with e1 _ e3
          subst e1 e3
          have hr := ((HR2.out.below HB.out).below hbw).at hlp
          have d0 := hr.1
          have d1 := hr.2
          have HCP := Lib.hid (HCK.out p hlp)
          have HRP := Lib.hid (HRS.out p)
          have HLP := Lib.hid (HRL.out p)
          have j1 : (p : Int) < (m : Int) := by omega
          have j2 : 0 ≤ (p : Int) := by omega
          generalize ys.getD (p * 2) 0 = y0 at *
          generalize ys.getD (p * 2 + 1) 0 = y1 at *
          generalize G p = u at *
          obtain ⟨A3, c3, rfl⟩ := hin.row.shape
          have lt1 := hin.c.lt
          have hin2 := hin.kept HH.out ((Below.refl _ _).alloc (Nat.le_refl _) (.cells #[.int .i64 y0, .int .i64 y1] 39))
          have k0 := hin.c.c0
          have k1 := hin.c.c1
          rw [HLP.out] at hin2
          have HIN := Lib.hid hin2
          clear hr hin hin2 hbw HCK
          rw [HLP.out]
          go_wp2_with (first
            | (go_at_call 116; refine (HCP.out _).mono ?_; rintro e w3 ⟨rfl, hb3⟩; have hin3 := HIN.out.kept HH.out hb3)
            | (at_builtin; refine wpList_push (.tmp 23) (.tmp 27) rfl rfl (h + 1) _ (F p) rfl hin3.row rfl (by rw [HLP.out]; omega) (by have := hin3.c.lt; omega) ?_; intro v' w' hr' hg' hat'))
          have HP := Lib.hid (hin3.push hr' hg')
          clear hin3 hr' hg' hat' hb3
          go_roundw
          case rel => exact ⟨p + 1, by omega, by go_num, by rw [HRP.out]; exact HP.out⟩
          case measure => first | (simp [intOf]; done) | (simp [intOf]; omega)
        · obtain rfl : p = m := by omega
          have ht1 := HTR.out.below hbw
          rw [hlen] at ht1
          have hMw : M ≤ h + 1 := by have := HTR.out.size; have := HH.out; omega
          have hws : w.heap.size ≤ wr.heap.size := Nat.le_trans HB.out.size hbw.size
          have hr1 := hin.row.mono hMw
          have HLP := Lib.hid (HRL.out p)
          have HBW := Lib.hid (HB.out.trans (hbw.mono HB.out.size))
          obtain ⟨A3, c3, rfl⟩ := hr1.shape
          have HSU : Hid (wmT xs ys p (k + 1) = TT ++ [F p]) := Lib.hid HSUC.out
          generalize F p = row at *
          rw [HLP.out] at hr1 ⊢
          clear hin hbw
          go_wp2_with (at_builtin; refine wpList_pushV (.tmp 30) (.tmp 32) rfl rfl w.heap.size _ vs rfl (ht1.out.alloc _) wr.heap.size (.slice A3 p c3) rfl (by simp) rfl (by omega) (by simp; omega) ?_; intro v3 w3 hr3 hg3 hat3)
          have hgl := grown_alloc_left hg3
          have HT3 := Lib.hid (ht1.push hr1 hM hr3 hgl (hat_allocM hat3))
          have HB3 := Lib.hid (HBW.out.grown hgl hws (fun q hq => (ht1.outB q hq).1))
          have hz3 := HB3.out.size
          clear ht1 hr1 hr3 hg3 hat3 hgl
          go_roundw
          case rel => exact ⟨k + 1, w3.heap.size, _, by omega, by go_num, by rw [HSU.out]; exact HT3.out, hz3, HB3.out⟩
          case measure => first | (simp [intOf]; done) | (simp [intOf]; omega)
    · obtain rfl : k = n := by omega
      have HTR := Lib.hid (htr.mono (Nat.le_refl _) htr.size (Nat.le_refl _))
      have HB := Lib.hid hb
      clear htr hb
      go_wp2_with fail
      go_ret
      exact ⟨_, vs, rfl, HTR.out, HB.out⟩
end Go.Proofs.Ytnlmjeakdjmohaa

/- The model's WaysMatrix. -/
namespace Go.Proofs.Ytnlmjeakdjmohaa
open Go.RowKit
set_option linter.unusedVariables false
theorem gdB_of {n m : Nat} {xs ys : List Int} (h : gdB n xs m ys = true) : m = n ∧ n ≤ 4 ∧ (∀ i, i < n → gdC xs i = true) ∧ ∀ j, j < m → gdC ys j = true := by
  unfold gdB at h
  rw [Bool.and_eq_true, Bool.and_eq_true, beq_iff_eq, List.all_eq_true] at h
  obtain ⟨⟨h1, rfl⟩, h2⟩ := h
  have h3 := inBd_if6 h1
  have h4 : ∀ i, i < m → gdC xs i = true ∧ gdC ys i = true := fun i hi => by
    have := h2 i (List.mem_range.mpr hi)
    rwa [Bool.and_eq_true] at this
  exact ⟨rfl, by omega, fun i hi => (h4 i hi).1, fun i hi => (h4 i hi).2⟩
theorem wmR_get (xs ys : List Int) (m n k : Nat) : ((wmT xs ys m n).getD k []).length ≤ m := by
  rw [List.getD_eq_getElem?_getD]
  rcases Nat.lt_or_ge k n with h | h
  · rw [List.getElem?_eq_getElem (by rw [wmT_length]; exact h)]
    simp [wmT, wmR]
  · rw [List.getElem?_eq_none (by rw [wmT_length]; exact h)]
    simp
def wyT (n : Nat) (xs : List Int) (m : Nat) (ys : List Int) : List (List Int) := if gdB n xs m ys = true then wmT xs ys m n else []
end Go.Proofs.Ytnlmjeakdjmohaa
