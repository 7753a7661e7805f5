/- The walk of FnExactCountOrdered: it asks the model and the program about copies of a list and holds the answers against each other. -/
import Derived.Test.YtnlcainfkchieaaInList
import Derived.Test.YtnlcainfkchieaaLists
namespace Go.Proofs.Ytnlcainfkchieaa
open Go.RowKit
set_option maxHeartbeats 1000000 in
theorem wFnExactCountOrdered_main (v : Value) (xs : List Int) (ok : Bool) (x0 : Int)
    (hS : Hid (∀ v w, RInts w v xs → Calls Try.prog 23 #[v] w (Ret w (.tuple #[.int .i64 x0, .bool ok])))) (hI : Hid (∀ v w, RInts w v xs → Calls Try.prog 24 #[v] w (Ret w (.tuple #[.int .i64 x0, .bool ok])))) (w : World) (h : RInts w v xs) (hl : xs.length ≤ 1048576) :
    Calls Try.prog 6 #[v] w fun e w' => e = .returned (.bool true) ∧ Below w.heap.size w w' := by
  obtain ⟨A0, cap, rfl⟩ := h.shape
  have H := Lib.hid h
  clear h
  have hl' : ¬ (1048576 : Int) < (xs.length : Int) := by omega
  go_enter Try.func6, Try.ntmps6
  go_wp2_with fail
  refine (toIntS_any _ xs _ H.out hl).mono ?_
  rintro e w1 ⟨v1, rfl, hr1, hb1⟩
  go_wp2_with fail
  refine (hS.out v1 _ (RInts.of_row hr1)).mono ?_
  rintro e w2 ⟨rfl, hb2⟩
  have hbb2 := hb1.trans (hb2.mono hb1.size)
  clear hr1
  go_wp2_with fail
  refine (toIntS_any _ xs _ (H.out.below hbb2) hl).mono ?_
  rintro e w3 ⟨v3, rfl, hr3, hb3⟩
  have hbb3 := hbb2.trans (hb3.mono hbb2.size)
  go_wp2_with fail
  refine (hI.out v3 _ (RInts.of_row hr3)).mono ?_
  rintro e w4 ⟨rfl, hb4⟩
  have hbb4 := hbb3.trans (hb4.mono hbb3.size)
  have hr3' := hr3.below hb4
  clear hr3
  go_wp2_with fail
  refine (toIntS_any _ xs _ (H.out.below hbb4) hl).mono ?_
  rintro e w5 ⟨v5, rfl, hr5, hb5⟩
  have hbb5 := hbb4.trans (hb5.mono hbb4.size)
  go_wp2_with fail
  refine (eqInts_same v3 v5 xs _ _ _ (hr3'.below hb5) hr5 (by omega)).mono ?_
  rintro e w6 ⟨rfl, n6, rfl⟩
  go_wp2_with fail
  go_ret
  exact ⟨rfl, below_drewN hbb5 n6⟩
set_option maxHeartbeats 400000 in
theorem wFnExactCountOrdered_big (A : Option Addr) (len cap : Nat) (w : World) (h : 1048576 < len) :
    Calls Try.prog 6 #[.slice A len cap] w fun e w' => e = .returned (.bool true) ∧ Below w.heap.size w w' := by
  go_enter Try.func6, Try.ntmps6
  go_wp2
  go_ret
  exact ⟨rfl, Below.refl _ _⟩
end Go.Proofs.Ytnlcainfkchieaa
