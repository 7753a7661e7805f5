/- The program's isMatrix, DeterminantOf. -/
import Derived.Test.YtahnknbggacndaaDtmS
import Derived.Test.YtahnknbggacndaaDtI
import Derived.Test.YtahnknbggacndaaWthI
namespace Go.Proofs.Ytahnknbggacndaa
open Go.RowKit
set_option linter.unusedVariables false
set_option maxRecDepth 100000 in
set_option maxHeartbeats 2000000 in
theorem isMatrix_any (v : Value) (xss : List (List Int)) (w : World) (h : LRows w v xss) (hl : ∀ k, k < xss.length → (xss.getD k []).length ≤ 1048576) (hl2 : xss.length ≤ 1048576) :
    Calls Try.prog 103 #[v] w (Ret w (.bool (smT xss))) := by
  have HI : Hid (∀ (X : World) (g : Nat), g = X.heap.size → Calls Try.prog 78 #[.int .i64 1, .int .i64 4, .slice (some ⟨g, 0, none⟩) 1 1] (X.alloc (.cells #[.int .i64 (xss.length : Nat)] 3)) fun e w' => e = .returned (.bool (inBd 1 4 (xss.length : Nat))) ∧ Below X.heap.size X w') := Lib.hid fun X g hg => wth_1 1 4 (xss.length : Nat) X g hg
  rcases Bool.eq_false_or_eq_true (inBd 1 4 (xss.length : Nat)) with h0 | h0
  case inr =>
    have e1 : smT xss = false := by unfold smT; rw [h0]; rfl
    obtain ⟨A, c, rfl⟩ := h.shape
    rw [e1]
    rw [h0] at HI
    clear e1 h0 h
    go_enter Try.func103, Try.ntmps103
    go_wp2_with (go_at_call 78; refine (HI.out _ _ rfl).mono ?_; rintro e w1 ⟨rfl, hb1⟩)
    go_ret
    exact ⟨rfl, hb1⟩
  have hn := inBd_if8 h0
  have hn1 : 0 < xss.length := by omega
  have hn4 : xss.length ≤ 4 := by omega
  obtain ⟨g, o, c, rfl, hg, hc⟩ := h.cells hn1
  have HC := Lib.hid hc
  have H0 := Lib.hid h0
  have HL := Lib.hid hl
  rw [h0] at HI
  have HT : Hid (∀ j, j < xss.length → smRow xss.length (xss.getD j []) = false → smT xss = false) := Lib.hid fun j h1 h2 => smT_no h1 h2
  have HY : Hid ((∀ k, k < xss.length → smRow xss.length (xss.getD k []) = true) → smT xss = true) := Lib.hid fun h1 => smT_yes H0.out h1
  obtain ⟨n, hnn⟩ : ∃ n, xss.length = n := ⟨_, rfl⟩
  rw [hnn] at HC HL HI HT HY hn4 hn1 ⊢
  clear h hc h0 hl hl2 hn H0 hnn
  generalize smT xss = T at *
  go_enter Try.func103, Try.ntmps103
  go_wp2_with (go_at_call 78; refine (HI.out _ _ rfl).mono ?_; rintro e w1 ⟨rfl, hb1⟩)
  go_loopw [12] (fun i wr => ∃ j : Nat, j ≤ n ∧ i = .int .i64 (j : Int) ∧ (∀ k, k < j → smRow n (xss.getD k []) = true) ∧ Below w.heap.size w wr) (fun i _ => n - (intOf i).toNat)
  case atStart => exact ⟨0, Nat.zero_le _, rfl, fun k hk => absurd hk (by omega), hb1⟩
  case round =>
    obtain ⟨j, hj, rfl, hall, hb⟩ := hrel
    by_cases hlt : j < n
    · obtain ⟨w0, rfl⟩ : ∃ w0, w0 = wr := ⟨_, rfl⟩
      obtain ⟨u, hu1, hu2⟩ := HC.out j hlt
      have hu3 := hu2.below hb
      have e1 := (hb.cell (p := ⟨g, o + j, none⟩) hg).trans hu1
      have HA := Lib.hid (wth_any u (xss.getD j []) (-10000) 10000 w0 hu3 (HL.out j hlt))
      obtain ⟨A1, c1, rfl⟩ := hu2.shape
      have HJ : Hid (smRow n (xss.getD j []) = ((xss.getD j []).length == n && allB (xss.getD j []) (-10000) 10000)) := Lib.hid rfl
      have HTJ := Lib.hid (HT.out j hlt)
      have HALL := Lib.hid hall
      have HB := Lib.hid hb
      have i1 : (j : Int) < (n : Int) := by omega
      have h00 : 0 ≤ (j : Int) := by omega
      clear hu1 hu2 hu3 hall hb HT
      generalize hrj : xss.getD j [] = r at *
      have HRJ := Lib.hid hrj
      clear hrj
      by_cases hlen : r.length = n
      · rcases Bool.eq_false_or_eq_true (allB r (-10000) 10000) with ha | ha
        · have HJ2 : Hid (smRow n r = true) := Lib.hid (by rw [HJ.out, ha, hlen]; simp)
          rw [ha, hlen] at HA
          have i2 : ((r.length : Int) != (n : Int)) = false := by rw [hlen]; simp
          clear HJ HTJ ha
          go_wp2_with (go_at_call 78; refine HA.out.mono ?_; rintro e w' ⟨rfl, rfl⟩)
          go_roundw
          case rel => exact ⟨j + 1, by omega, by go_num, fun k hk => by
            rcases Nat.lt_or_ge k j with h | h
            · exact HALL.out k h
            · obtain rfl : k = j := by omega
              rw [HRJ.out]; exact HJ2.out, HB.out⟩
          case measure => first | (simp [intOf]; done) | (simp [intOf]; omega)
        · have HJ2 := Lib.hid (HTJ.out (by rw [HJ.out, ha, Bool.and_false]))
          rw [ha, hlen] at HA
          have i2 : ((r.length : Int) != (n : Int)) = false := by rw [hlen]; simp
          clear HJ HTJ ha
          rw [HJ2.out]
          go_wp2_with (go_at_call 78; refine HA.out.mono ?_; rintro e w' ⟨rfl, rfl⟩)
          go_ret
          exact ⟨rfl, HB.out⟩
      · have HJ2 := Lib.hid (HTJ.out (by rw [HJ.out]; simp [hlen]))
        have i2 : ((r.length : Int) != (n : Int)) = true := by simpa using fun h : (r.length : Int) = (n : Int) => hlen (by omega)
        clear HJ HTJ hlen
        rw [HJ2.out]
        go_wp2_with fail
        go_ret
        exact ⟨rfl, HB.out⟩
    · obtain rfl : j = n := by omega
      have HT1 := Lib.hid (HY.out hall)
      have HB := Lib.hid hb
      clear hall hb HT
      go_wp2_with fail
      go_ret
      exact ⟨by rw [HT1.out]; rfl, HB.out⟩
set_option maxRecDepth 100000 in
theorem determinantI_ret (v : Value) (xss : List (List Int)) (w : World) (h : MRows w v xss) (hl : ∀ k, k < xss.length → (xss.getD k []).length ≤ 1048576) (hl2 : xss.length ≤ 1048576) :
    Calls Try.prog 63 #[v] w (Ret w (.tuple #[.int .i64 (dtmV xss), .bool (dtmOk xss)])) := by
  have HS := Lib.hid (isMatrix_any v xss w h.rows hl hl2)
  have H := Lib.hid h
  unfold dtmOk dtmV
  obtain ⟨A, c, rfl⟩ := h.rows.shape
  clear h
  rcases Bool.eq_false_or_eq_true (smT xss) with hs | hs
  · obtain ⟨h4, hsq⟩ := smT_sq hs
    have HK := Lib.hid fun w' (hb : Below w.heap.size w w') => det_any xss.length _ xss w' h4 hsq (H.out.below hb)
    rw [if_pos hs, hs]
    rw [hs] at HS
    clear hs hsq
    generalize detF xss.length xss = D at *
    go_enter Try.func63, Try.ntmps63
    go_wp2_with fail
    refine HS.out.mono ?_
    rintro e w1 ⟨rfl, hb1⟩
    go_wp2_with fail
    refine (HK.out _ hb1).mono ?_
    rintro e w2 ⟨rfl, hb2⟩
    go_wp2_with fail
    go_ret2
    exact ⟨rfl, hb1.trans (hb2.mono hb1.size)⟩
  · rw [if_neg (by rw [hs]; decide), hs]
    rw [hs] at HS
    clear hs
    go_enter Try.func63, Try.ntmps63
    go_wp2_with fail
    refine HS.out.mono ?_
    rintro e w1 ⟨rfl, hb1⟩
    go_wp2_with fail
    go_ret2
    exact ⟨rfl, hb1⟩
end Go.Proofs.Ytahnknbggacndaa
