/- The walk of FnExactAreApart: it asks the model and the program about copies of the ways and holds the answers against each other. -/
import Derived.Test.YtahnknbggacndaaWaIn
import Derived.Test.YtahnknbggacndaaWMark
import Derived.Test.YtahnknbggacndaaApS
import Derived.Test.YtahnknbggacndaaArI
namespace Go.Proofs.Ytahnknbggacndaa
open Go.RowKit
set_option linter.unusedVariables false
theorem WRow.reads_as {w : World} {B n : Nat} {u : Value} {L : List Wy} (h : WRow w B u (cpY n L n)) (hs : ∀ j, j < n → (wg L j).2.2.size ≤ maxLen) : RWays w u n L := by
  have hg : ∀ j, j < n → wg (cpY n L n) j = wg L j := fun j hj => by rw [cpY_get L n hj, if_pos hj]
  have hln := cpY_length n L n
  have hr := h.reads (fun t ht => by
    obtain ⟨j, hj, rfl⟩ := List.getElem_of_mem ht
    have h2 : wg (cpY n L n) j = (cpY n L n)[j] := by unfold wg; rw [List.getD_eq_getElem?_getD, List.getElem?_eq_getElem hj]; rfl
    rw [← h2, hg j (by omega)]
    exact hs j (by omega))
  rw [hln] at hr
  exact ⟨hr.shape, hr.room, hs, fun h0 => by
    obtain ⟨g, o, c, h1, h2, h3⟩ := hr.cells h0
    refine ⟨g, o, c, h1, h2, fun j hj => ?_⟩
    have := h3 j hj
    rwa [hg j hj] at this⟩
set_option maxRecDepth 100000 in
set_option maxHeartbeats 2000000 in
theorem wFnExactAreApart (v : Value) (n : Nat) (L : List Wy) (w : World) (h : RWays w v n L) :
    Calls Try.prog 12 #[v] w fun e w' => e = .returned (.bool true) ∧ Below w.heap.size w w' := by
  have HZ := Lib.hid (szWayS_any v n L 1048576 w h ⟨by omega, by omega⟩)
  have HM := Lib.hid h
  obtain ⟨A, c, rfl⟩ := h.shape
  by_cases hbig : szWT n L 1048576 < 0
  · generalize szWT n L 1048576 = left at *
    clear h
    go_enter Try.func12, Try.ntmps12
    go_wp2_with fail
    refine HZ.out.mono ?_
    rintro e w1 ⟨rfl, hb1⟩
    go_wp2_with fail
    go_ret
    exact ⟨rfl, hb1⟩
  have h1 := szWT_ok (left := 1048576) ⟨by omega, by omega⟩ hbig
  have HSM := Lib.hid h.small
  have HT : Hid (∀ w', Below w.heap.size w w' → Calls Try.prog 51 #[.slice A n c] w' fun e w'' => ∃ u, e = .returned u ∧ WRow w'' w'.heap.size u (cpY n L n) ∧ Below w'.heap.size w' w'') := Lib.hid fun w' hb => toWayS_any _ n L w' (HM.out.below hb) h1
  have HS : Hid (∀ u w', RWays w' u n L → Calls Try.prog 50 #[u] w' (Ret w' (.tuple #[.bool (arV n L), .bool (arOk n L)]))) := Lib.hid fun u w' hm => specAreApart_ret u n L w' hm h1
  have HI : Hid (∀ u w', RWays w' u n L → Calls Try.prog 52 #[u] w' (Ret w' (.tuple #[.bool (arV n L), .bool (arOk n L)]))) := Lib.hid fun u w' hm => areApartI_ret u n L w' hm h1
  have HEQ : Hid (∀ v1 v2 B1 B2 w', WRow w' B1 v1 (cpY n L n) → WRow w' B2 v2 (cpY n L n) → Calls Try.prog 39 #[v1, v2] w' (Ret w' (.bool true))) := Lib.hid fun v1 v2 B1 B2 w' a b => eqWays_same v1 v2 _ B1 B2 w' a b (by rw [cpY_length]; exact h1)
  have HLN := Lib.hid (cpY_length n L n)
  generalize szWT n L 1048576 = left at *
  generalize arV n L = dv at *
  generalize arOk n L = dk at *
  clear h
  go_enter Try.func12, Try.ntmps12
  go_wp2_with fail
  refine HZ.out.mono ?_
  rintro e w0 ⟨rfl, hb0⟩
  have HB0 := Lib.hid hb0
  clear hb0
  go_wp2_with fail
  refine (HT.out _ HB0.out).mono ?_
  rintro e w1 ⟨u1, rfl, ht1, hb1⟩
  have HB1 := Lib.hid (HB0.out.trans (hb1.mono HB0.out.size))
  have HR1 := Lib.hid (ht1.reads_as HSM.out)
  obtain ⟨A1, c1, rfl⟩ := ht1.shape
  clear hb1 ht1
  go_wp2_with fail
  refine (HS.out _ _ HR1.out).mono ?_
  rintro e w2 ⟨rfl, hb2⟩
  have HB2 := Lib.hid (HB1.out.trans (hb2.mono HB1.out.size))
  clear hb2
  go_wp2_with fail
  refine (HT.out _ HB2.out).mono ?_
  rintro e w3 ⟨u3, rfl, ht3, hb3⟩
  have HB3 := Lib.hid (HB2.out.trans (hb3.mono HB2.out.size))
  obtain ⟨A3, c3, rfl⟩ := ht3.shape
  have HT3 := Lib.hid ht3
  clear hb3 ht3
  go_wp2_with fail
  refine (HI.out _ _ (HT3.out.reads_as HSM.out)).mono ?_
  rintro e w4 ⟨rfl, hb4⟩
  have HB4 := Lib.hid (HB3.out.trans (hb4.mono HB3.out.size))
  have HT4 := Lib.hid (HT3.out.below hb4)
  clear hb4
  go_wp2_with fail
  refine (HT.out _ HB4.out).mono ?_
  rintro e w5 ⟨u5, rfl, ht5, hb5⟩
  have HB5 := Lib.hid (HB4.out.trans (hb5.mono HB4.out.size))
  have HT5 := Lib.hid (HT4.out.below hb5)
  obtain ⟨A5, c5, rfl⟩ := ht5.shape
  have HT6 := Lib.hid ht5
  clear hb5 ht5
  go_wp2_with fail
  refine (HEQ.out _ _ _ _ _ HT5.out HT6.out).mono ?_
  rintro e w6 ⟨rfl, hb6⟩
  have HB6 := Lib.hid (HB5.out.trans (hb6.mono HB5.out.size))
  clear hb6
  go_wp2_with fail
  go_ret
  exact ⟨rfl, HB6.out⟩
end Go.Proofs.Ytahnknbggacndaa
