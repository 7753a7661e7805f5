/- The walk of FnExactJoinPaths: it asks the model and the program and holds them against each other. -/
import Derived.Test.YtdekjmbbogddgabOwn
namespace Go.Proofs.Ytdekjmbbogddgab
open Go.RowKit

set_option maxHeartbeats 1000000 in
theorem wFnExactJoinPaths_main (a0 : ByteArray) (a1 : ByteArray) (ok : Bool) (x0 : ByteArray)
    (hS : Hid (∀ w, Calls Try.prog 20 #[.string a0, .string a1] w (Ret w (.tuple #[.string x0, .bool ok])))) (hI : Hid (∀ w, Calls Try.prog 21 #[.string a0, .string a1] w (Ret w (.tuple #[.string x0, .bool ok])))) (w : World) (hz0 : ¬ 1048576 < a0.size) (hz1 : ¬ 1048576 < a1.size) :
    Calls Try.prog 6 #[.string a0, .string a1] w fun e w' => e = .returned (.bool true) ∧ Below w.heap.size w w' := by
  go_enter Try.func6, Try.ntmps6
  go_wp2_with fail
  refine (hS.out _).mono ?_
  rintro e w1 ⟨rfl, hb0⟩
  go_wp2_with fail
  refine (hI.out _).mono ?_
  rintro e w2 ⟨rfl, hb1⟩
  go_wp2_with fail
  go_ret
  exact ⟨rfl, hb0.trans (hb1.mono hb0.size)⟩

set_option maxHeartbeats 400000 in
theorem wFnExactJoinPaths_big (a0 : ByteArray) (a1 : ByteArray) (w : World) (hb : 1048576 < a0.size ∨ 1048576 < a1.size) :
    Calls Try.prog 6 #[.string a0, .string a1] w fun e w' => e = .returned (.bool true) ∧ Below w.heap.size w w' := by
  by_cases h0 : 1048576 < a0.size
  · clear hb
    go_enter Try.func6, Try.ntmps6
    go_wp2
    go_ret
    exact ⟨rfl, Below.refl _ _⟩
  · have h1 : 1048576 < a1.size := by omega
    clear hb
    go_enter Try.func6, Try.ntmps6
    go_wp2
    go_ret
    exact ⟨rfl, Below.refl _ _⟩

end Go.Proofs.Ytdekjmbbogddgab
