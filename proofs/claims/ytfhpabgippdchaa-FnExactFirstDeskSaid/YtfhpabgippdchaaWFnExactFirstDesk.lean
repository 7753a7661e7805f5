/- FnExactFirstDesk: no argument. -/
import Derived.Test.YtfhpabgippdchaaDkLaw
namespace Go.Proofs.Ytfhpabgippdchaa
open Go.RowKit
set_option linter.unusedVariables false
abbrev uudd : ByteArray := ⟨#[85, 85, 68, 68]⟩
theorem firstDeskI_ret (w : World) : Calls Try.prog 6 #[] w (Ret w (dkV uudd ⟨#[]⟩)) := by
  go_enter Try.func6, Try.ntmps6
  go_wp2
  exact bodyPost_ret (v := dkV uudd ⟨#[]⟩) (by simp [results, Try.f6, go_sem]) rfl ⟨rfl, (Below.refl _ _).alloc (Nat.le_refl _) _⟩
theorem firstDeskS_ret (w : World) : Calls Try.prog 5 #[] w (Ret w (dkV uudd ⟨#[]⟩)) := by
  go_enter Try.func5, Try.ntmps5
  go_wp2
  exact bodyPost_ret (v := dkV uudd ⟨#[]⟩) (by simp [results, Try.f5, go_sem]) rfl ⟨rfl, (Below.refl _ _).alloc (Nat.le_refl _) _⟩
theorem wFnExactFirstDesk (w : World) : Calls Try.prog 3 #[] w fun e w' => e = .returned (.bool true) ∧ Below w.heap.size w w' := by
  go_enter Try.func3, Try.ntmps3
  go_wp2_with fail
  refine (firstDeskS_ret _).mono ?_
  rintro e w1 ⟨rfl, hb1⟩
  have Q1 := Lib.hid (DB.new w1 uudd ⟨#[]⟩ 23)
  have B1 : Below w.heap.size w (w1.alloc (.cells #[.string uudd, .string ⟨#[]⟩] 23)) := hb1.alloc hb1.size _
  go_wp2_with fail
  refine (firstDeskI_ret _).mono ?_
  rintro e w2 ⟨rfl, hb2⟩
  have Q2 := Lib.hid ((Q1.out.below hb2).below ((Below.refl _ _).alloc (Nat.le_refl _) (.cells #[.string uudd, .string ⟨#[]⟩] 23)))
  have B2 := (B1.trans (hb2.mono B1.size)).alloc (Nat.le_trans B1.size hb2.size) (.cells #[.string uudd, .string ⟨#[]⟩] 23)
  have q0 := Q2.out.c0
  have q1 := Q2.out.c1
  have qlt := Q2.out.lt
  go_wp2_with fail
  refine (eqDesk_any _ _ _).mono ?_
  rintro e w3 ⟨rfl, hb3⟩
  have B3 := B2.trans (hb3.mono B2.size)
  go_wp2_with fail
  go_ret
  exact ⟨rfl, B3⟩
end Go.Proofs.Ytfhpabgippdchaa
