/- FnExactIsDesk for every argument. -/
import Derived.Test.YtfhpabgippdchaaDeskP
namespace Go.Proofs.Ytfhpabgippdchaa
open Go.RowKit
set_option linter.unusedVariables false
set_option maxHeartbeats 2000000 in
theorem wFnExactIsDesk (p k : ByteArray) (w : World) (h0 : p.size ≤ maxLen ∧ k.size ≤ maxLen) : Calls Try.prog 4 #[dkV p k] w fun e w' => e = .returned (.bool true) ∧ Below w.heap.size w w' := by
  have hp := h0.1
  have hk := h0.2
  have HQ := Lib.hid (DB.new w p k 27)
  have B0 : Below w.heap.size w (w.alloc (.cells #[.string p, .string k] 27)) := (Below.refl _ _).alloc (Nat.le_refl _) _
  have HZ := Lib.hid fun W => szDesk_any p k 1048576 W hp hk ⟨by omega, by omega⟩
  have HS := Lib.hid fun W => isDeskS_ret p k W hp hk
  have HI := Lib.hid fun W => isDeskI_ret p k W hp hk
  have c0 := HQ.out.c0
  have c1 := HQ.out.c1
  have lt0 := HQ.out.lt
  clear hp hk h0
  generalize dkB p k = b at *
  by_cases hbig : szD p k 1048576 < 0
  · generalize szD p k 1048576 = left at *
    go_enter Try.func4, Try.ntmps4
    go_wp2_with fail
    refine (HZ.out _).mono ?_
    rintro e w1 ⟨rfl, hb1⟩
    go_wp2_with fail
    go_ret
    exact ⟨rfl, B0.trans (hb1.mono B0.size)⟩
  generalize szD p k 1048576 = left at *
  go_enter Try.func4, Try.ntmps4
  go_wp2_with fail
  refine (HZ.out _).mono ?_
  rintro e w1 ⟨rfl, hb1⟩
  have Q1 := Lib.hid (HQ.out.below hb1)
  have B1 := B0.trans (hb1.mono B0.size)
  clear hb1 c0 c1 lt0 HQ HZ
  have c0 := Q1.out.c0
  have c1 := Q1.out.c1
  have lt0 := Q1.out.lt
  go_wp2_with fail
  refine (toDesk_any p k _).mono ?_
  rintro e w2 ⟨rfl, hb2⟩
  have Q2 := Lib.hid (Q1.out.below hb2)
  have B2 := B1.trans (hb2.mono B1.size)
  clear hb2
  go_wp2_with fail
  refine (HS.out _).mono ?_
  rintro e w3 ⟨rfl, hb3⟩
  have Q3 := Lib.hid (Q2.out.below hb3)
  have B3 := B2.trans (hb3.mono B2.size)
  clear hb3 c0 c1 lt0 Q1 Q2
  have c0 := Q3.out.c0
  have c1 := Q3.out.c1
  have lt0 := Q3.out.lt
  go_wp2_with fail
  refine (toDesk_any p k _).mono ?_
  rintro e w4 ⟨rfl, hb4⟩
  have B4 := B3.trans (hb4.mono B3.size)
  clear hb4
  go_wp2_with fail
  refine (HI.out _).mono ?_
  rintro e w5 ⟨rfl, hb5⟩
  have B5 := B4.trans (hb5.mono B4.size)
  clear hb5
  go_wp2_with fail
  go_ret
  exact ⟨rfl, B5⟩
end Go.Proofs.Ytfhpabgippdchaa
