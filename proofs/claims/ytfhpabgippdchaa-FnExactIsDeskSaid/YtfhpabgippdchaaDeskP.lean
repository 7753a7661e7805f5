/- IsDesk, coGood: two paths. -/
import Derived.Test.YtfhpabgippdchaaDkLaw
import Derived.Test.YtfhpabgippdchaaPathOk
namespace Go.Proofs.Ytfhpabgippdchaa
open Go.RowKit
set_option linter.unusedVariables false
def dkB (p k : ByteArray) : Bool := pathB p && pathB k
set_option maxHeartbeats 800000 in
theorem isDeskI_ret (p k : ByteArray) (w : World) (hp : p.size ≤ maxLen) (hk : k.size ≤ maxLen) : Calls Try.prog 11 #[dkV p k] w (Ret w (.bool (dkB p k))) := by
  have HB : Hid (Below w.heap.size w (w.alloc (.cells #[.string p, .string k] 23))) := Lib.hid ((Below.refl _ _).alloc (Nat.le_refl _) _)
  have HP : Hid (∀ X, Calls Try.prog 13 #[.string p] X fun e w' => e = .returned (.bool (pathB p)) ∧ X = w') := Lib.hid fun X => isPath_any p X hp
  have HK : Hid (∀ X, Calls Try.prog 13 #[.string k] X fun e w' => e = .returned (.bool (pathB k)) ∧ X = w') := Lib.hid fun X => isPath_any k X hk
  unfold dkB
  clear hp hk
  cases hb : pathB p with
  | false =>
    rw [hb] at HP
    clear hb
    go_enter Try.func11, Try.ntmps11
    go_wp2_with fail
    refine (HP.out _).mono ?_
    rintro e w1 ⟨rfl, rfl⟩
    go_wp2_with fail
    go_ret
    exact ⟨rfl, HB.out⟩
  | true =>
    rw [hb] at HP
    clear hb
    rw [Bool.true_and]
    generalize pathB k = b at *
    go_enter Try.func11, Try.ntmps11
    go_wp2_with fail
    refine (HP.out _).mono ?_
    rintro e w1 ⟨rfl, rfl⟩
    go_wp2_with fail
    refine (HK.out _).mono ?_
    rintro e w1 ⟨rfl, rfl⟩
    go_wp2_with fail
    go_ret
    exact ⟨rfl, HB.out⟩
set_option maxHeartbeats 800000 in
theorem coGood_any (p k : ByteArray) (w : World) (hp : p.size ≤ maxLen) (hk : k.size ≤ maxLen) : Calls Try.prog 12 #[dkV p k] w (Ret w (.bool (dkB p k))) := by
  have HB : Hid (Below w.heap.size w (w.alloc (.cells #[.string p, .string k] 23))) := Lib.hid ((Below.refl _ _).alloc (Nat.le_refl _) _)
  have HP : Hid (∀ X, Calls Try.prog 14 #[.string p] X fun e w' => e = .returned (.bool (pathB p)) ∧ X = w') := Lib.hid fun X => paGood_any p X hp
  have HK : Hid (∀ X, Calls Try.prog 14 #[.string k] X fun e w' => e = .returned (.bool (pathB k)) ∧ X = w') := Lib.hid fun X => paGood_any k X hk
  unfold dkB
  clear hp hk
  cases hb : pathB p with
  | false =>
    rw [hb] at HP
    clear hb
    go_enter Try.func12, Try.ntmps12
    go_wp2_with fail
    refine (HP.out _).mono ?_
    rintro e w1 ⟨rfl, rfl⟩
    go_wp2_with fail
    go_ret
    exact ⟨rfl, HB.out⟩
  | true =>
    rw [hb] at HP
    clear hb
    rw [Bool.true_and]
    generalize pathB k = b at *
    go_enter Try.func12, Try.ntmps12
    go_wp2_with fail
    refine (HP.out _).mono ?_
    rintro e w1 ⟨rfl, rfl⟩
    go_wp2_with fail
    refine (HK.out _).mono ?_
    rintro e w1 ⟨rfl, rfl⟩
    go_wp2_with fail
    go_ret
    exact ⟨rfl, HB.out⟩
theorem isDeskS_ret (p k : ByteArray) (w : World) (hp : p.size ≤ maxLen) (hk : k.size ≤ maxLen) : Calls Try.prog 9 #[dkV p k] w (Ret w (.bool (dkB p k))) := by
  have HB : Below w.heap.size w (w.alloc (.cells #[.string p, .string k] 23)) := (Below.refl _ _).alloc (Nat.le_refl _) _
  have HG := Lib.hid fun X => coGood_any p k X hp hk
  clear hp hk
  generalize dkB p k = b at *
  go_enter Try.func9, Try.ntmps9
  go_wp2_with fail
  refine (HG.out _).mono ?_
  rintro e w1 ⟨rfl, hb1⟩
  go_wp2_with fail
  go_ret
  exact ⟨rfl, HB.trans (hb1.mono HB.size)⟩
end Go.Proofs.Ytfhpabgippdchaa
