/- Pack 39 of what FnExactFirstApart needs: DmtI, AskS. -/
import Derived.Test.YtnlmjeakdjmohaaKFnExactFirstApart38
/- The program's isMatrix, DeterminantOf. -/
namespace Go.Proofs.Ytnlmjeakdjmohaa
open Go.RowKit
set_option linter.unusedVariables false
set_option maxRecDepth 100000 in
set_option maxHeartbeats 2000000 in
theorem isMatrix_any (v : Value) (xss : List (List Int)) (w : World) (h : LRows w v xss) (hl : ∀ k, k < xss.length → (xss.getD k []).length ≤ 1048576) (hl2 : xss.length ≤ 1048576) :
    Calls Try.prog 144 #[v] w (Ret w (.bool (smT xss))) := by
  have HI : Hid (∀ (X : World) (g : Nat), g = X.heap.size → Calls Try.prog 130 #[.int .i64 1, .int .i64 4, .slice (some ⟨g, 0, none⟩) 1 1] (X.alloc (.cells #[.int .i64 (xss.length : Nat)] 3)) fun e w' => e = .returned (.bool (inBd 1 4 (xss.length : Nat))) ∧ Below X.heap.size X w') := Lib.hid fun X g hg => wth_1 1 4 (xss.length : Nat) X g hg
  rcases Bool.eq_false_or_eq_true (inBd 1 4 (xss.length : Nat)) with h0 | h0
  case inr =>
    have e1 : smT xss = false := by unfold smT; rw [h0]; rfl
    obtain ⟨A, c, rfl⟩ := h.shape
    rw [e1]
    rw [h0] at HI
    clear e1 h0 h
    go_enter Try.func144, Try.ntmps144
    go_wp2_with (go_at_call 130; refine (HI.out _ _ rfl).mono ?_; rintro e w1 ⟨rfl, hb1⟩)
    go_ret
    exact ⟨rfl, hb1⟩
  have hn := inBd_if8 h0
  have hn1 : 0 < xss.length := by omega
  have hn4 : xss.length ≤ 4 := by omega
  obtain ⟨g, o, c, rfl, hg, hc⟩ := h.cells hn1
  have HC := Lib.hid hc
  have H0 := Lib.hid h0
  have HL := Lib.hid hl
  rw [h0] at HI
  have HT : Hid (∀ j, j < xss.length → smRow xss.length (xss.getD j []) = false → smT xss = false) := Lib.hid fun j h1 h2 => smT_no h1 h2
  have HY : Hid ((∀ k, k < xss.length → smRow xss.length (xss.getD k []) = true) → smT xss = true) := Lib.hid fun h1 => smT_yes H0.out h1
  obtain ⟨n, hnn⟩ : ∃ n, xss.length = n := ⟨_, rfl⟩
  rw [hnn] at HC HL HI HT HY hn4 hn1 ⊢
  clear h hc h0 hl hl2 hn H0 hnn
  generalize smT xss = T at *
  go_enter Try.func144, Try.ntmps144
  go_wp2_with (go_at_call 130; refine (HI.out _ _ rfl).mono ?_; rintro e w1 ⟨rfl, hb1⟩)
  go_loopw [12] (fun i wr => ∃ j : Nat, j ≤ n ∧ i = .int .i64 (j : Int) ∧ (∀ k, k < j → smRow n (xss.getD k []) = true) ∧ Below w.heap.size w wr) (fun i _ => n - (intOf i).toNat)
  case atStart => exact ⟨0, Nat.zero_le _, rfl, fun k hk => absurd hk (by omega), hb1⟩
  case round =>
    obtain ⟨j, hj, rfl, hall, hb⟩ := hrel
    by_cases hlt : j < n
    · obtain ⟨w0, rfl⟩ : ∃ w0, w0 = wr := ⟨_, rfl⟩
      obtain ⟨u, hu1, hu2⟩ := HC.out j hlt
      have hu3 := hu2.below hb
      have e1 := (hb.cell (p := ⟨g, o + j, none⟩) hg).trans hu1
      have HA := Lib.hid (wth_any u (xss.getD j []) (-10000) 10000 w0 hu3 (HL.out j hlt))
      obtain ⟨A1, c1, rfl⟩ := hu2.shape
      have HJ : Hid (smRow n (xss.getD j []) = ((xss.getD j []).length == n && allB (xss.getD j []) (-10000) 10000)) := Lib.hid rfl
      have HTJ := Lib.hid (HT.out j hlt)
      have HALL := Lib.hid hall
      have HB := Lib.hid hb
      have i1 : (j : Int) < (n : Int) := by omega
      have h00 : 0 ≤ (j : Int) := by omega
      clear hu1 hu2 hu3 hall hb HT
      generalize hrj : xss.getD j [] = r at *
      have HRJ := Lib.hid hrj
      clear hrj
      by_cases hlen : r.length = n
      · rcases Bool.eq_false_or_eq_true (allB r (-10000) 10000) with ha | ha
        · have HJ2 : Hid (smRow n r = true) := Lib.hid (by rw [HJ.out, ha, hlen]; simp)
          rw [ha, hlen] at HA
          have i2 : ((r.length : Int) != (n : Int)) = false := by rw [hlen]; simp
          clear HJ HTJ ha
          go_wp2_with (go_at_call 130; refine HA.out.mono ?_; rintro e w' ⟨rfl, rfl⟩)
          go_roundw
          case rel => exact ⟨j + 1, by omega, by go_num, fun k hk => by
            rcases Nat.lt_or_ge k j with h | h
            · exact HALL.out k h
            · obtain rfl : k = j := by omega
              rw [HRJ.out]; exact HJ2.out, HB.out⟩
          case measure => first | (simp [intOf]; done) | (simp [intOf]; omega)
        · have HJ2 := Lib.hid (HTJ.out (by rw [HJ.out, ha, Bool.and_false]))
          rw [ha, hlen] at HA
          have i2 : ((r.length : Int) != (n : Int)) = false := by rw [hlen]; simp
          clear HJ HTJ ha
          rw [HJ2.out]
          go_wp2_with (go_at_call 130; refine HA.out.mono ?_; rintro e w' ⟨rfl, rfl⟩)
          go_ret
          exact ⟨rfl, HB.out⟩
      · have HJ2 := Lib.hid (HTJ.out (by rw [HJ.out]; simp [hlen]))
        have i2 : ((r.length : Int) != (n : Int)) = true := by simpa using fun h : (r.length : Int) = (n : Int) => hlen (by omega)
        clear HJ HTJ hlen
        rw [HJ2.out]
        go_wp2_with fail
        go_ret
        exact ⟨rfl, HB.out⟩
    · obtain rfl : j = n := by omega
      have HT1 := Lib.hid (HY.out hall)
      have HB := Lib.hid hb
      clear hall hb HT
      go_wp2_with fail
      go_ret
      exact ⟨by rw [HT1.out]; rfl, HB.out⟩
set_option maxRecDepth 100000 in
theorem determinantI_ret (v : Value) (xss : List (List Int)) (w : World) (h : MRows w v xss) (hl : ∀ k, k < xss.length → (xss.getD k []).length ≤ 1048576) (hl2 : xss.length ≤ 1048576) :
    Calls Try.prog 119 #[v] w (Ret w (.tuple #[.int .i64 (dtmV xss), .bool (dtmOk xss)])) := by
  have HS := Lib.hid (isMatrix_any v xss w h.rows hl hl2)
  have H := Lib.hid h
  unfold dtmOk dtmV
  obtain ⟨A, c, rfl⟩ := h.rows.shape
  clear h
  rcases Bool.eq_false_or_eq_true (smT xss) with hs | hs
  · obtain ⟨h4, hsq⟩ := smT_sq hs
    have HK := Lib.hid fun w' (hb : Below w.heap.size w w') => det_any xss.length _ xss w' h4 hsq (H.out.below hb)
    rw [if_pos hs, hs]
    rw [hs] at HS
    clear hs hsq
    generalize detF xss.length xss = D at *
    go_enter Try.func119, Try.ntmps119
    go_wp2_with fail
    refine HS.out.mono ?_
    rintro e w1 ⟨rfl, hb1⟩
    go_wp2_with fail
    refine (HK.out _ hb1).mono ?_
    rintro e w2 ⟨rfl, hb2⟩
    go_wp2_with fail
    go_ret2
    exact ⟨rfl, hb1.trans (hb2.mono hb1.size)⟩
  · rw [if_neg (by rw [hs]; decide), hs]
    rw [hs] at HS
    clear hs
    go_enter Try.func119, Try.ntmps119
    go_wp2_with fail
    refine HS.out.mono ?_
    rintro e w1 ⟨rfl, hb1⟩
    go_wp2_with fail
    go_ret2
    exact ⟨rfl, hb1⟩
end Go.Proofs.Ytnlmjeakdjmohaa

/- The model's WaysMatrix, ncAsked, CountApart. -/
namespace Go.Proofs.Ytnlmjeakdjmohaa
open Go.RowKit
set_option linter.unusedVariables false
def askC (n : Nat) (xs : List Int) (m : Nat) (ys : List Int) : Bool := ((gdB n xs m ys && tdB n xs) && tdB m ys) && smT (wmT xs ys m n)
set_option maxRecDepth 100000 in
set_option maxHeartbeats 2000000 in
theorem ncAsked_any (v1 v2 : Value) (n m : Nat) (xs ys : List Int) (w : World) (h1 : RCels w v1 n xs) (h2 : RCels w v2 m ys) (hn : n ≤ 1048576) (hm : m ≤ 1048576) :
    Calls Try.prog 71 #[v1, v2] w (Ret w (.bool (askC n xs m ys))) := by
  have HG := Lib.hid (ncGood_any v1 v2 n m xs ys w h1 h2 hn hm)
  have HT1 := Lib.hid fun w' (hb : Below w.heap.size w w') => ncTied_any v1 n xs w' (h1.below hb) hn
  have HT2 := Lib.hid fun w' (hb : Below w.heap.size w w') => ncTied_any v2 m ys w' (h2.below hb) hm
  have HS : Hid (∀ v vs w', TRow w' w.heap.size w'.heap.size v vs (wmT xs ys m n) → Calls Try.prog 113 #[v] w' (Ret w' (.bool (smT (wmT xs ys m n))))) := Lib.hid fun v vs w' ht =>
    ncSmall_any v _ w' ht.mrows.rows (fun k _ => Nat.le_trans (wmR_get xs ys m n k) hm) (by rw [wmT_length]; exact hn)
  have HM : Hid (gdB n xs m ys = true → ∀ w', Below w.heap.size w w' → Calls Try.prog 114 #[v1, v2] w' (TabsNew w' (wmT xs ys m n))) := Lib.hid fun a1 w' hb => by
    obtain ⟨e, h4, hx, hy⟩ := gdB_of a1
    exact ncMatrix_any v1 v2 n m xs ys w' (h1.below hb) (h2.below hb) h4 (by omega) hx hy
  obtain ⟨A1, p1, rfl⟩ := h1.shape
  obtain ⟨A2, p2, rfl⟩ := h2.shape
  clear h1 h2
  unfold askC
  generalize smT (wmT xs ys m n) = b4 at *
  generalize wmT xs ys m n = TT at *
  generalize tdB n xs = b2 at *
  generalize tdB m ys = b3 at *
  rcases Bool.eq_false_or_eq_true (gdB n xs m ys) with a1 | a1
  case inr =>
    rw [a1] at HG ⊢
    clear a1 HM
    go_enter Try.func71, Try.ntmps71
    go_wp2_with fail
    refine HG.out.mono ?_
    rintro e w1 ⟨rfl, hb1⟩
    have HB := Lib.hid hb1
    clear hb1
    go_wp2_with fail
    go_ret
    exact ⟨by simp, HB.out⟩
  have HMM := Lib.hid (HM.out a1)
  rw [a1] at HG ⊢
  clear a1 HM
  go_enter Try.func71, Try.ntmps71
  go_wp2_with fail
  refine HG.out.mono ?_
  rintro e w1 ⟨rfl, hb1⟩
  have HB1 := Lib.hid hb1
  clear hb1
  go_wp2_with fail
  refine (HT1.out _ HB1.out).mono ?_
  rintro e w2 ⟨rfl, hb2⟩
  have HB2 := Lib.hid (HB1.out.trans (hb2.mono HB1.out.size))
  clear hb2
  rcases b2 with _ | _
  · go_wp2_with fail
    go_ret
    exact ⟨by simp, HB2.out⟩
  go_wp2_with fail
  refine (HT2.out _ HB2.out).mono ?_
  rintro e w3 ⟨rfl, hb3⟩
  have HB3 := Lib.hid (HB2.out.trans (hb3.mono HB2.out.size))
  clear hb3
  rcases b3 with _ | _
  · go_wp2_with fail
    go_ret
    exact ⟨by simp, HB3.out⟩
  go_wp2_with fail
  refine (HMM.out _ HB3.out).mono ?_
  rintro e w4 ⟨v, vs, rfl, ht, hb4⟩
  have HT := Lib.hid (ht.mono HB3.out.size (Nat.le_refl _) (Nat.le_refl _))
  have HB4 := Lib.hid (HB3.out.trans (hb4.mono HB3.out.size))
  clear ht hb4
  go_wp2_with fail
  refine (HS.out _ _ _ HT.out).mono ?_
  rintro e w5 ⟨rfl, hb5⟩
  have HB5 := Lib.hid (HB4.out.trans (hb5.mono HB4.out.size))
  clear hb5
  go_wp2_with fail
  go_ret
  exact ⟨by simp, HB5.out⟩
def cpV (n : Nat) (xs : List Int) (m : Nat) (ys : List Int) : Int := if askC n xs m ys = true then detF n (wmT xs ys m n) else 0
end Go.Proofs.Ytnlmjeakdjmohaa
