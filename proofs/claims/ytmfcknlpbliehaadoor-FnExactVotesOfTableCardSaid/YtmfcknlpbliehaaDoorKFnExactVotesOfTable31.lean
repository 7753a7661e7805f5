/- Pack 31 of what FnExactVotesOfTable needs: LFnExactVotesOfTable. -/
import Derived.Test.YtmfcknlpbliehaaDoorKFnExactVotesOfTable30
/- The walk of FnExactVotesOfTable: it asks the model and the program about copies of the rows and holds the answers against each other. -/
namespace Go.Proofs.YtmfcknlpbliehaaDoor
open Go.RowKit
set_option linter.unusedVariables false
set_option maxRecDepth 100000 in
set_option maxHeartbeats 2000000 in
theorem wFnExactVotesOfTable (v : Value) (xss : List (List Int)) (w : World) (h : MRows w v xss ∧ ∀ k, k < xss.length → (xss.getD k []).length ≤ maxLen) :
    Calls Tryd.prog 4 #[v] w fun e w' => e = .returned (.bool true) ∧ Below w.heap.size w w' := by
  have HZ := Lib.hid (szIntSS_any v xss 1048576 w h.1 h.2 ⟨by omega, by omega⟩)
  have HM := Lib.hid h.1
  obtain ⟨A, c, rfl⟩ := h.1.rows.shape
  by_cases hbig : szT 1048576 xss < 0
  · generalize szT 1048576 xss = left at *
    clear h
    go_enter Tryd.func4, Tryd.ntmps4
    go_wp2_with fail
    refine HZ.out.mono ?_
    rintro e w1 ⟨rfl, rfl⟩
    go_wp2_with fail
    go_ret
    exact ⟨rfl, Below.refl _ _⟩
  obtain ⟨h1, h2, h3⟩ := szT_ok (left := 1048576) ⟨by omega, by omega⟩ hbig
  have HL := Lib.hid h1
  have HT : Hid (∀ w', Below w.heap.size w w' → Calls Tryd.prog 9 #[.slice A xss.length c] w' (TabsNew w' xss)) := Lib.hid fun w' hb => toIntSS_any _ xss w' ⟨HM.out.rows.below hb, HM.out.room⟩ h1 h3
  have HS : Hid (∀ u w', MRows w' u xss → Calls Tryd.prog 8 #[u] w' (Ret w' (.tuple #[.string (votV xss), .bool (votOk xss)]))) := Lib.hid fun u w' hm => specVotesOfTable_ret u xss w' hm h3 h1
  have HI : Hid (∀ u w', MRows w' u xss → Calls Tryd.prog 10 #[u] w' (Ret w' (.tuple #[.string (votV xss), .bool (votOk xss)]))) := Lib.hid fun u w' hm => votesOfTable_ret u xss w' hm h3 h1
  have HEQ : Hid (∀ v1 v2 vs1 vs2 B1 B2 M1 M2 w', TRow w' B1 M1 v1 vs1 xss → TRow w' B2 M2 v2 vs2 xss → Calls Tryd.prog 11 #[v1, v2] w' fun e w'' => e = .returned (.bool true) ∧ ∃ n, w'' = w'.drewN n) := Lib.hid fun v1 v2 vs1 vs2 B1 B2 M1 M2 w' a b => eqTabs_same v1 v2 vs1 vs2 xss B1 B2 M1 M2 w' a b h1 (by omega)
  generalize szT 1048576 xss = left at *
  generalize votV xss = dv at *
  generalize votOk xss = dk at *
  clear h h1 h2 h3
  go_enter Tryd.func4, Tryd.ntmps4
  go_wp2_with fail
  refine HZ.out.mono ?_
  rintro e w1 ⟨rfl, rfl⟩
  go_wp2_with fail
  refine (HT.out _ (Below.refl _ _)).mono ?_
  rintro e w1 ⟨u1, vs1, rfl, ht1, hb1⟩
  have HB1 := Lib.hid hb1
  obtain ⟨A1, c1, rfl⟩ := ht1.out.shape
  have HT1 := Lib.hid ht1
  clear hb1 ht1
  go_wp2_with fail
  refine (HS.out _ _ HT1.out.mrows).mono ?_
  rintro e w2 ⟨rfl, hb2⟩
  have HB2 := Lib.hid (HB1.out.trans (hb2.mono HB1.out.size))
  clear hb2
  go_wp2_with fail
  refine (HT.out _ HB2.out).mono ?_
  rintro e w3 ⟨u3, vs3, rfl, ht3, hb3⟩
  have HB3 := Lib.hid (HB2.out.trans (hb3.mono HB2.out.size))
  obtain ⟨A3, c3, rfl⟩ := ht3.out.shape
  have HT3 := Lib.hid ht3
  clear hb3 ht3
  go_wp2_with fail
  refine (HI.out _ _ HT3.out.mrows).mono ?_
  rintro e w4 ⟨rfl, hb4⟩
  have HB4 := Lib.hid (HB3.out.trans (hb4.mono HB3.out.size))
  have HT4 := Lib.hid (HT3.out.below hb4)
  clear hb4
  go_wp2_with fail
  refine (HT.out _ HB4.out).mono ?_
  rintro e w5 ⟨u5, vs5, rfl, ht5, hb5⟩
  have HB5 := Lib.hid (HB4.out.trans (hb5.mono HB4.out.size))
  have HT5 := Lib.hid (HT4.out.below hb5)
  obtain ⟨A5, c5, rfl⟩ := ht5.out.shape
  have HT6 := Lib.hid ht5
  clear hb5 ht5
  go_wp2_with fail
  refine (HEQ.out _ _ _ _ _ _ _ _ _ HT5.out HT6.out).mono ?_
  rintro e w6 ⟨rfl, n6, rfl⟩
  go_wp2_with fail
  go_ret
  exact ⟨rfl, below_drewN HB5.out _⟩
end Go.Proofs.YtmfcknlpbliehaaDoor
