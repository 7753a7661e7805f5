/- The program's IsCell, (Cell).place, (place).cell, .east, .north, moveOf. -/
import Derived.Test.YtahnknbggacndaaPOwn
import Derived.Test.YtahnknbggacndaaNcS
import Derived.Test.YtahnknbggacndaaWthI
namespace Go.Proofs.Ytahnknbggacndaa
open Go.RowKit
set_option linter.unusedVariables false
theorem isCellI_ret (x y : Int) (w : World) : Calls Try.prog 22 #[celV x y] w (Ret w (.bool (cellB x y))) := by
  have HW : Hid (∀ (X : World) (g : Nat), g = X.heap.size → Calls Try.prog 78 #[.int .i64 0, .int .i64 12, .slice (some ⟨g, 0, none⟩) 2 2] (X.alloc (.cells #[.int .i64 x, .int .i64 y] 3)) fun e w' => e = .returned (.bool (inBd 0 12 x && inBd 0 12 y)) ∧ Below X.heap.size X w') := Lib.hid fun X g hg => wth_2 0 12 x y X g hg
  have hb0 : Below w.heap.size w (w.alloc (.cells #[.int .i64 x, .int .i64 y] 25)) := (Below.refl _ _).alloc (Nat.le_refl _) _
  unfold cellB
  generalize (inBd 0 12 x && inBd 0 12 y) = b at *
  go_enter Try.func22, Try.ntmps22
  go_wp2_with (go_at_call 78; refine (HW.out _ _ (by simp)).mono ?_; rintro e w1 ⟨rfl, hb1⟩)
  go_ret
  exact ⟨rfl, hb0.trans (hb1.mono (by simp))⟩
theorem cellPlace_ret (x y : Int) (w : World) : Calls Try.prog 111 #[celV x y] w (Ret w (celV x y)) := by
  go_enter Try.func111, Try.ntmps111
  go_wp2
  refine bodyPost_ret (v := celV x y) (by simp [results, Try.results111, go_sem]) rfl ⟨rfl, ?_⟩
  exact ((Below.refl _ _).alloc (Nat.le_refl _) _).alloc (by simp) _
theorem placeCell_ret (x y : Int) (w : World) : Calls Try.prog 81 #[celV x y] w (Ret w (celV x y)) := by
  go_enter Try.func81, Try.ntmps81
  go_wp2
  refine bodyPost_ret (v := celV x y) (by simp [results, Try.results81, go_sem]) rfl ⟨rfl, ?_⟩
  exact ((Below.refl _ _).alloc (Nat.le_refl _) _).alloc (by simp) _
theorem east_ret (x y : Int) (w : World) (hx : -100 ≤ x ∧ x ≤ 100) : Calls Try.prog 124 #[celV x y] w (Ret w (celV (x + 1) y)) := by
  go_enter Try.func124, Try.ntmps124
  go_wp2
  refine bodyPost_ret (v := celV (x + 1) y) (by simp [results, Try.results124, go_sem]) rfl ⟨rfl, ?_⟩
  exact ((Below.refl _ _).alloc (Nat.le_refl _) _).alloc (by simp) _
theorem north_ret (x y : Int) (w : World) (hy : -100 ≤ y ∧ y ≤ 100) : Calls Try.prog 125 #[celV x y] w (Ret w (celV x (y + 1))) := by
  go_enter Try.func125, Try.ntmps125
  go_wp2
  refine bodyPost_ret (v := celV x (y + 1)) (by simp [results, Try.results125, go_sem]) rfl ⟨rfl, ?_⟩
  exact ((Below.refl _ _).alloc (Nat.le_refl _) _).alloc (by simp) _
theorem moveOf_E (w : World) : Calls Try.prog 112 #[.int .u8 69] w fun e w' => e = .returned (.tuple #[.func (.func 124) #[] #[], .bool true]) ∧ w = w' := by
  go_enter Try.func112, Try.ntmps112
  go_wp2
  go_ret2
  exact ⟨rfl, rfl⟩
theorem moveOf_N (w : World) : Calls Try.prog 112 #[.int .u8 78] w fun e w' => e = .returned (.tuple #[.func (.func 125) #[] #[], .bool true]) ∧ w = w' := by
  go_enter Try.func112, Try.ntmps112
  go_wp2
  go_ret2
  exact ⟨rfl, rfl⟩
theorem moveOf_no (c : Int) (w : World) (h1 : (c == 69) = false) (h2 : (c == 78) = false) : Calls Try.prog 112 #[.int .u8 c] w fun e w' => (∃ v, e = .returned (.tuple #[v, .bool false])) ∧ w = w' := by
  go_enter Try.func112, Try.ntmps112
  go_wp2
  go_ret2
  exact ⟨⟨_, rfl⟩, rfl⟩
end Go.Proofs.Ytahnknbggacndaa
